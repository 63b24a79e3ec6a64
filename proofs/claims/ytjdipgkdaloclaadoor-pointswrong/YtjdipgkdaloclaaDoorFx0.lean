/-
  points.differing, points.choices; which sets of places are near.
-/
import Derived.Test.YtjdipgkdaloclaaDoorCh
import Derived.Test.YtjdipgkdaloclaaDoorDf
import Derived.Test.YtjdipgkdaloclaaDoorOf
import Derived.Test.YtjdipgkdaloclaaDoorTh
import Derived.Deep.QuietTactic
namespace Go.Proofs.YtjdipgkdaloclaaDoor
open Go.RowKit

theorem differing_any (x y : Nm) (hl : x.z.length = y.z.length) (hm : x.z.length ≤ 1000000) (w : World) (hx : Nums w x) (hy : Nums w y) : Calls Tryd.prog 16 #[x.v, y.v] w fun e w' => e = .returned (.int .i64 (dfc x.z y.z x.z.length : Nat)) ∧ Ext w w' := by
  obtain ⟨h1, h2, _, b, o, h3, h4⟩ := hx
  obtain ⟨k1, k2, _, b2, o2, k3, k4⟩ := hy
  rw [← hl] at k1 k3 k4
  have LC0 : Hid (∀ i, i < x.z.length → w.cell? ⟨b, o + i, none⟩ = some (.int .i64 (x.z.getD i 0))) := h4
  have LA : Hid (0 < x.z.length → x.a = some ⟨b, o, none⟩) := h3
  have RC0 : Hid (∀ i, i < x.z.length → w.cell? ⟨b2, o2 + i, none⟩ = some (.int .i64 (y.z.getD i 0))) := k4
  have RA : Hid (0 < x.z.length → y.a = some ⟨b2, o2, none⟩) := k3
  have NX0 : Hid (∀ k, dfc x.z y.z (k + 1) = dfc x.z y.z k + (if x.z.getD k 0 != y.z.getD k 0 then 1 else 0)) := fun k => dfc_next _ _ k
  have OL0 : Hid (∀ k, dfc x.z y.z k ≤ k) := fun k => dfc_le _ _ k
  simp only [Nm.v]
  rw [← hl]
  clear h3 h4 k3 k4 hl h1 h2 k1 k2
  generalize x.a = xa at *
  generalize x.c = xc at *
  generalize y.a = ya at *
  generalize y.c = yc at *
  obtain ⟨O, hO⟩ : ∃ O : Nat → Nat, O = dfc x.z y.z := ⟨_, rfl⟩
  obtain ⟨Z, hZ⟩ : ∃ Z : Nat → Int, Z = fun i => x.z.getD i 0 := ⟨_, rfl⟩
  obtain ⟨U, hU⟩ : ∃ U : Nat → Int, U = fun i => y.z.getD i 0 := ⟨_, rfl⟩
  have LC : Hid (∀ i, i < x.z.length → w.cell? ⟨b, o + i, none⟩ = some (.int .i64 (Z i))) := by rw [hZ]; exact LC0.out
  have RC : Hid (∀ i, i < x.z.length → w.cell? ⟨b2, o2 + i, none⟩ = some (.int .i64 (U i))) := by rw [hU]; exact RC0.out
  have NX : Hid (∀ k, O (k + 1) = O k + (if Z k != U k then 1 else 0)) := by rw [hO, hZ, hU]; exact NX0.out
  have OL : Hid (∀ k, O k ≤ k) := by rw [hO]; exact OL0.out
  have OZ : Hid (O 0 = 0) := by rw [hO]; rfl
  rw [← hO]
  clear hO hZ hU LC0 RC0 NX0 OL0
  generalize x.z.length = n at *
  go_enter Tryd.func16, Tryd.ntmps16
  go_wp2
  go_loopg [5, 6, 9] n (fun gg s5 _ s9 wr => ∃ k : Nat, k ≤ n ∧ n - k ≤ gg ∧ s9 = .int .i64 k ∧ s5 = .int .i64 (O k : Nat) ∧ Aside (Qt w wr))
  case atStart => exact ⟨0, by omega, by omega, rfl, by rw [OZ.out]; rfl, Qt.refl w⟩
  case round =>
    obtain ⟨k, hk, hgg, rfl, rfl, BW⟩ := hrel
    by_cases hlt : k < n
    · have hltz : (k : Int) < (n : Int) := by omega
      obtain rfl := LA.out (by omega)
      obtain rfl := RA.out (by omega)
      have e1 := BW.out.cell (LC.out k hlt)
      have e2 := BW.out.cell (RC.out k hlt)
      have nx := NX.out k
      have ol := OL.out k
      have Q : Hid (∀ q, Qt w (wr.drewN q)) := fun q => BW.out.drewN q
      clear LC RC NX OL OZ LA RA BW
      cases hq : (Z k != U k)
      · have NX2 : Hid (O (k + 1) = O k) := by rw [Hid, nx, hq]; rfl
        clear nx
        generalize Z k = vk at *
        generalize U k = zk at *
        generalize hOk : O k = ok at *
        clear hOk
        go_wp2
        go_quiet (fail)
        go_wp2
        go_roundg (n - (k + 1))
        case measure => omega
        case rel => exact ⟨k + 1, by omega, by omega, by go_num, by rw [NX2.out], Q.out _⟩
      · have NX2 : Hid (O (k + 1) = O k + 1) := by rw [Hid, nx, hq]; rfl
        clear nx
        generalize Z k = vk at *
        generalize U k = zk at *
        generalize hOk : O k = ok at *
        clear hOk
        go_wp2
        go_quiet (fail)
        go_wp2
        go_roundg (n - (k + 1))
        case measure => omega
        case rel => exact ⟨k + 1, by omega, by omega, by go_num, by rw [NX2.out]; go_num, Q.out _⟩
    · obtain rfl : k = n := by omega
      have hnot : ¬ (k : Int) < (k : Int) := by omega
      go_wp2
      go_ret
      exact ⟨rfl, BW.out.ext⟩

theorem choices_any (k n : Int) (w : World) : Calls Tryd.prog 14 #[.int .i64 k, .int .i64 n] w fun e w' => e = .returned (.func (.func 22) #[] #[.pointer (some ⟨w.heap.size + 1, 0, none⟩), .pointer (some ⟨w.heap.size, 0, none⟩)]) ∧ w' = (w.alloc (.cells #[.int .i64 k] 3)).alloc (.cells #[.int .i64 n] 3) := by
  go_enter Tryd.func14, Tryd.ntmps14
  go_wp2
  go_ret
  exact ⟨rfl, rfl⟩

/-- The numbers that a set of places tells. -/
def sd (z : List Int) (k s : Nat) : List Nat := nl (nd (fun p => (z.getD p 0).toNat) (fun i => (pl s).getD i 0) k) k
/-- At how many places these make other numbers. -/
def sc (z : List Int) (k s : Nat) : Nat := dfc (zl (nl (ep (sd z k s)) z.length)) z z.length
/-- So many places, and near enough. -/
def near (z : List Int) (k s : Nat) : Prop := pop s = k ∧ 2 * sc z k s + k ≤ z.length

theorem sc_ofc (z : List Int) (d : List Nat) : ofc z (List.replicate z.length false) d z.length = dfc (zl (nl (ep d) z.length)) z z.length := by
  unfold ofc dfc
  refine List.countP_congr (fun i hi => ?_)
  have hi := List.mem_range.1 hi
  unfold dif
  have e : (List.replicate z.length false).getD i false = false := by simp [List.getD_eq_getElem?_getD, hi]
  rw [e, zl_at, nl_at _ hi]
  simp

theorem set_thr {z : List Int} {k s : Nat} (hz : ∀ x ∈ z, 0 ≤ x ∧ x ≤ 15) (hn : z.length ≤ 9) (hk : 1 ≤ k) (hs : s < 2 ^ z.length) (hp : pop s = k) (y pm : Nm) (hy : y.z = z) (hpm : pm.z = zl (pl s)) : Thr (fun p => (z.getD p 0).toNat) (fun i => (pl s).getD i 0) k y pm := by
  have p2 : 2 ^ z.length ≤ 2 ^ 9 := Nat.pow_le_pow_right (by omega) hn
  have hlen : (pl s).length = k := by rw [pl_pop (by omega), hp]
  have hmem : ∀ i, i < k → (pl s).getD i 0 < z.length := fun i hi => by
    have hm : (pl s).getD i 0 ∈ pl s := by
      rw [List.getD_eq_getElem?_getD, List.getElem?_eq_getElem (by omega)]
      exact List.getElem_mem _
    rw [← pl_below hn hs] at hm ⊢
    have := (List.mem_filter.1 hm).1
    exact List.mem_range.1 this
  have hval : ∀ i, i < z.length → 0 ≤ z.getD i 0 ∧ z.getD i 0 ≤ 15 := fun i hi => by
    rw [List.getD_eq_getElem?_getD, List.getElem?_eq_getElem hi]
    exact hz _ (List.getElem_mem hi)
  have hk9 : k ≤ 9 := by
    rw [← hlen]
    have := List.length_filter_le (fun i => s.testBit i) (List.range 9)
    rw [List.length_range] at this
    exact this
  refine ⟨⟨fun i hi => by have := hmem i hi; omega, fun i hi => by have := hval _ (hmem i hi); omega, fun i j hi hj e => ?_⟩, hk, hk9, fun i hi => by rw [hy]; exact hmem i hi, fun i hi => ?_, ?_⟩
  · have hpw := pl_pw s
    rw [List.getD_eq_getElem?_getD, List.getD_eq_getElem?_getD, List.getElem?_eq_getElem (by omega), List.getElem?_eq_getElem (by omega)] at e
    simp only [Option.getD_some] at e
    rcases Nat.lt_trichotomy i j with h' | h' | h'
    · exact absurd e (List.pairwise_iff_getElem.1 hpw i j _ _ h')
    · exact h'
    · exact absurd e.symm (List.pairwise_iff_getElem.1 hpw j i _ _ h')
  · rw [hy]
    have := hval _ (hmem i hi)
    omega
  · rw [hpm]
    congr 1
    rw [← hlen]
    exact (nl_self (pl s)).symm

theorem sd_lt {z : List Int} {k s : Nat} (hz : ∀ x ∈ z, 0 ≤ x ∧ x ≤ 15) (hn : z.length ≤ 9) (hk : 1 ≤ k) (hs : s < 2 ^ z.length) (hp : pop s = k) : ∀ c ∈ sd z k s, c < 16 :=
  nl_lt (fun i _ => nd_lt (set_thr hz hn hk hs hp ⟨none, 0, z⟩ ⟨none, 0, zl (pl s)⟩ rfl rfl).plc i)

end Go.Proofs.YtjdipgkdaloclaaDoor
