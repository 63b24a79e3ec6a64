/-
  quipukeep.differ; what is the same at many places is the same.
-/
import Derived.Test.YtjdipgkdaloclaaDoorPu
namespace Go.Proofs.YtjdipgkdaloclaaDoor
open Go.RowKit

/-- At how many of the first k places two lists are not the same. -/
def dfc (a b : List Int) (k : Nat) : Nat := (List.range k).countP fun i => a.getD i 0 != b.getD i 0
theorem dfc_next (a b : List Int) (k : Nat) : dfc a b (k + 1) = dfc a b k + (if a.getD k 0 != b.getD k 0 then 1 else 0) := by
  unfold dfc
  rw [List.range_succ, List.countP_append]
  congr 1
  rw [List.countP_cons, List.countP_nil, Nat.zero_add]
theorem dfc_le (a b : List Int) (k : Nat) : dfc a b k ≤ k := by
  have := List.countP_le_length (p := fun i => a.getD i 0 != b.getD i 0) (l := List.range k)
  rwa [List.length_range] at this

theorem rt_mono (l : List Nat) (k : Nat) : ∀ d, rt l k ≤ rt l (k + d)
  | 0 => Nat.le_refl _
  | d + 1 => by
    rw [← Nat.add_assoc, rt_next]
    have := rt_mono l k d
    omega

theorem cnt_not {α : Type} (p : α → Bool) : ∀ L : List α, L.countP p + L.countP (fun i => !p i) = L.length
  | [] => rfl
  | a :: L => by
    have := cnt_not p L
    rw [List.countP_cons, List.countP_cons, List.length_cons]
    cases p a <;> simp <;> omega

/-- Two lists of m numbers that are not the same make the same at fewer places than m. -/
theorem far_of {a b : List Nat} {n : Nat} (ha : ∀ c ∈ a, c < 16) (hb : ∀ c ∈ b, c < 16) (hl : a.length = b.length) (hne : a ≠ b) (hn : n ≤ 9) : n < dfc (zl (nl (ep a) n)) (zl (nl (ep b) n)) n + a.length := by
  obtain ⟨f, hf⟩ : ∃ f : Nat → Nat, f = fun i => a.getD i 0 := ⟨_, rfl⟩
  obtain ⟨g, hg⟩ : ∃ g : Nat → Nat, g = fun i => b.getD i 0 := ⟨_, rfl⟩
  have ea : a = nl f a.length := by rw [hf]; exact (nl_self a).symm
  have eb : b = nl g a.length := by rw [hg, hl]; exact (nl_self b).symm
  have lf16 : ∀ i, f i < 16 := fun i => by rw [hf]; exact getD_lt ha i
  have lg16 : ∀ i, g i < 16 := fun i => by rw [hg]; exact getD_lt hb i
  have hx : ∀ c ∈ nl (fun i => f i ^^^ g i) a.length, c < 16 := nl_lt (fun i _ => xor_lt (lf16 i) (lg16 i))
  have hz : ¬ ∀ c ∈ nl (fun i => f i ^^^ g i) a.length, c = 0 := fun h => hne (by
    rw [ea, eb]
    exact nl_congr (fun i hi => xor_zero_iff (h _ (List.mem_map.2 ⟨i, List.mem_range.2 hi, rfl⟩))))
  have l1 := lagrange a.length _ (nl_len _ _) hx hz
  have root : ∀ i, i < n → (ev (i + 1) (nl (fun i => f i ^^^ g i) a.length) == 0) = !((zl (nl (ep a) n)).getD i 0 != (zl (nl (ep b) n)).getD i 0) := fun i hi => by
    have e0 : ev (i + 1) (nl (fun i => f i ^^^ g i) a.length) = ep a i ^^^ ep b i := by
      rw [ev_xor (by omega) (fun i _ => lf16 i) (fun i _ => lg16 i), ← ea, ← eb]
    rw [zl_at, zl_at, nl_at _ hi, nl_at _ hi, e0, Bool.eq_iff_iff]
    simp only [beq_iff_eq, Bool.not_eq_true', bne_eq_false_iff_eq]
    constructor
    · intro h; rw [xor_zero_iff h]
    · intro h; rw [Int.ofNat.inj h, Nat.xor_self]
  have l2 : (List.range n).countP (fun i => !((zl (nl (ep a) n)).getD i 0 != (zl (nl (ep b) n)).getD i 0)) ≤ rt (nl (fun i => f i ^^^ g i) a.length) (n + 1) := by
    unfold rt
    rw [List.range_succ_eq_map, List.countP_cons, List.countP_map]
    refine Nat.le_trans (Nat.le_of_eq ?_) (Nat.le_add_right _ _)
    refine List.countP_congr (fun i hi => ?_)
    rw [Function.comp, root i (List.mem_range.1 hi)]
  have l3 := rt_mono (nl (fun i => f i ^^^ g i) a.length) (n + 1) (16 - (n + 1))
  rw [show n + 1 + (16 - (n + 1)) = 16 by omega] at l3
  have l4 := cnt_not (fun i => (zl (nl (ep a) n)).getD i 0 != (zl (nl (ep b) n)).getD i 0) (List.range n)
  rw [List.length_range] at l4
  unfold dfc
  omega

theorem differ_any (x y : Nm) (hl : x.z.length = y.z.length) (hm : x.z.length ≤ 1000000) (w : World) (hx : Nums w x) (hy : Nums w y) : Calls Tryd.prog 11 #[x.v, y.v] w fun e w' => e = .returned (.int .i64 (dfc x.z y.z x.z.length : Nat)) ∧ Ext w w' := by
  obtain ⟨h1, h2, _, b, o, h3, h4⟩ := hx
  obtain ⟨k1, k2, _, b2, o2, k3, k4⟩ := hy
  rw [← hl] at k1 k3 k4
  have LC0 : Hid (∀ i, i < x.z.length → w.cell? ⟨b, o + i, none⟩ = some (.int .i64 (x.z.getD i 0))) := h4
  have LA : Hid (0 < x.z.length → x.a = some ⟨b, o, none⟩) := h3
  have RC0 : Hid (∀ i, i < x.z.length → w.cell? ⟨b2, o2 + i, none⟩ = some (.int .i64 (y.z.getD i 0))) := k4
  have RA : Hid (0 < x.z.length → y.a = some ⟨b2, o2, none⟩) := k3
  have NX0 : Hid (∀ k, dfc x.z y.z (k + 1) = dfc x.z y.z k + (if x.z.getD k 0 != y.z.getD k 0 then 1 else 0)) := fun k => dfc_next _ _ k
  have OL0 : Hid (∀ k, dfc x.z y.z k ≤ k) := fun k => dfc_le _ _ k
  simp only [Nm.v]
  rw [← hl]
  clear h3 h4 k3 k4 hl h1 h2 k1 k2
  generalize x.a = xa at *
  generalize x.c = xc at *
  generalize y.a = ya at *
  generalize y.c = yc at *
  obtain ⟨O, hO⟩ : ∃ O : Nat → Nat, O = dfc x.z y.z := ⟨_, rfl⟩
  obtain ⟨Z, hZ⟩ : ∃ Z : Nat → Int, Z = fun i => x.z.getD i 0 := ⟨_, rfl⟩
  obtain ⟨U, hU⟩ : ∃ U : Nat → Int, U = fun i => y.z.getD i 0 := ⟨_, rfl⟩
  have LC : Hid (∀ i, i < x.z.length → w.cell? ⟨b, o + i, none⟩ = some (.int .i64 (Z i))) := by rw [hZ]; exact LC0.out
  have RC : Hid (∀ i, i < x.z.length → w.cell? ⟨b2, o2 + i, none⟩ = some (.int .i64 (U i))) := by rw [hU]; exact RC0.out
  have NX : Hid (∀ k, O (k + 1) = O k + (if Z k != U k then 1 else 0)) := by rw [hO, hZ, hU]; exact NX0.out
  have OL : Hid (∀ k, O k ≤ k) := by rw [hO]; exact OL0.out
  have OZ : Hid (O 0 = 0) := by rw [hO]; rfl
  rw [← hO]
  clear hO hZ hU LC0 RC0 NX0 OL0
  generalize x.z.length = n at *
  go_enter Tryd.func11, Tryd.ntmps11
  go_wp2
  go_loopg [5, 6] n (fun gg s5 s6 wr => ∃ k : Nat, k ≤ n ∧ n - k ≤ gg ∧ s6 = .int .i64 k ∧ s5 = .int .i64 (O k : Nat) ∧ Aside (Qt w wr))
  case atStart => exact ⟨0, by omega, by omega, rfl, by rw [OZ.out]; rfl, Qt.refl w⟩
  case round =>
    obtain ⟨k, hk, hgg, rfl, rfl, BW⟩ := hrel
    by_cases hlt : k < n
    · have hltz : (k : Int) < (n : Int) := by omega
      obtain rfl := LA.out (by omega)
      obtain rfl := RA.out (by omega)
      have e1 := BW.out.cell (LC.out k hlt)
      have e2 := BW.out.cell (RC.out k hlt)
      have nx := NX.out k
      have ol := OL.out k
      have Q : Hid (∀ q, Qt w (wr.drewN q)) := fun q => BW.out.drewN q
      clear LC RC NX OL OZ LA RA BW
      cases hq : (Z k != U k)
      · have NX2 : Hid (O (k + 1) = O k) := by rw [Hid, nx, hq]; rfl
        clear nx
        generalize Z k = vk at *
        generalize U k = zk at *
        generalize hOk : O k = ok at *
        clear hOk
        go_wp2
        go_quiet (fail)
        go_wp2
        go_roundg (n - (k + 1))
        case measure => omega
        case rel => exact ⟨k + 1, by omega, by omega, by go_num, by rw [NX2.out], Q.out _⟩
      · have NX2 : Hid (O (k + 1) = O k + 1) := by rw [Hid, nx, hq]; rfl
        clear nx
        generalize Z k = vk at *
        generalize U k = zk at *
        generalize hOk : O k = ok at *
        clear hOk
        go_wp2
        go_quiet (fail)
        go_wp2
        go_roundg (n - (k + 1))
        case measure => omega
        case rel => exact ⟨k + 1, by omega, by omega, by go_num, by rw [NX2.out]; go_num, Q.out _⟩
    · obtain rfl : k = n := by omega
      have hnot : ¬ (k : Int) < (k : Int) := by omega
      go_wp2
      go_ret
      exact ⟨rfl, BW.out.ext⟩

end Go.Proofs.YtjdipgkdaloclaaDoor
