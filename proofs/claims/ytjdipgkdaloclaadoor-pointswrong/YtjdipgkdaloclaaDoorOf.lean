/-
  quipuref.off: at how many places, of those that are not lost, other numbers lie.
-/
import Derived.Test.YtjdipgkdaloclaaDoorLf
import Derived.Test.YtjdipgkdaloclaaDoorPu
namespace Go.Proofs.YtjdipgkdaloclaaDoor
open Go.RowKit

/-- Is another number there than the data make, and not lost? -/
def dif (z : List Int) (bs : List Bool) (d : List Nat) (i : Nat) : Bool := (((ep d i : Nat) : Int) != z.getD i 0) && !bs.getD i false
def ofc (z : List Int) (bs : List Bool) (d : List Nat) (k : Nat) : Nat := (List.range k).countP (dif z bs d)
theorem ofc_next (z : List Int) (bs : List Bool) (d : List Nat) (k : Nat) : ofc z bs d (k + 1) = ofc z bs d k + (if dif z bs d k then 1 else 0) := by
  unfold ofc
  rw [List.range_succ, List.countP_append]
  congr 1
  rw [List.countP_cons, List.countP_nil, Nat.zero_add]
theorem ofc_le (z : List Int) (bs : List Bool) (d : List Nat) (k : Nat) : ofc z bs d k ≤ k := by
  have := List.countP_le_length (p := dif z bs d) (l := List.range k)
  rwa [List.length_range] at this

theorem off_any (d : List Nat) (hd : ∀ c ∈ d, c < 16) (y : Nm) (x : Bd) (m : Nm) (hm : m.z = zl d) (hn : y.z.length ≤ 9) (hl : x.l.length = y.z.length) (w : World) (hy : Nums w y) (hx : Bls w x) (hw : Nums w m) :
    Calls Tryd.prog 21 #[y.v, x.v, m.v] w fun e w' => e = .returned (.int .i64 (ofc y.z x.l d y.z.length : Nat)) ∧ Ext w w' := by
  have c1 := values_any d hd y.z.length hn m hm w hw
  obtain ⟨h1, h2, _, b, o, h3, h4⟩ := hy
  obtain ⟨k1, k2, _, xb, xo, k3, k4⟩ := hx
  rw [hl] at k1 k3 k4
  have LC : Hid (∀ i, i < y.z.length → w.cell? ⟨b, o + i, none⟩ = some (.int .i64 (y.z.getD i 0))) := h4
  have LA : Hid (0 < y.z.length → y.a = some ⟨b, o, none⟩) := h3
  have BC : Hid (∀ i, i < y.z.length → w.cell? ⟨xb, xo + i, none⟩ = some (.bool (x.l.getD i false))) := k4
  have BA : Hid (0 < y.z.length → x.a = some ⟨xb, xo, none⟩) := k3
  have NX : Hid (∀ k, ofc y.z x.l d (k + 1) = ofc y.z x.l d k + (if (((ep d k : Nat) : Int) != y.z.getD k 0) && !x.l.getD k false then 1 else 0)) := fun k => ofc_next _ _ _ k
  have OL : Hid (∀ k, ofc y.z x.l d k ≤ k) := fun k => ofc_le _ _ _ k
  have OZ : Hid (ofc y.z x.l d 0 = 0) := rfl
  have HV : Hid (∀ W v, OwnN w W v (zl (nl (ep d) y.z.length)) → ∃ a c vb vo, v = .slice a y.z.length c ∧ (0 < y.z.length → a = some ⟨vb, vo, none⟩) ∧ ∀ i, i < y.z.length → W.cell? ⟨vb, vo + i, none⟩ = some (.int .i64 (ep d i : Nat))) := fun W v O => by
    obtain ⟨q, rfl, hq, q1, q2, _, vb, vo, q3, q4⟩ := O.nums
    have hql : q.z.length = y.z.length := by rw [hq, zl_len, nl_len]
    refine ⟨q.a, q.c, vb, vo, by rw [Nm.v, hql], fun h => q3 (by omega), fun i hi => ?_⟩
    rw [q4 i (by omega), hq, zl_at, nl_at _ hi]
  simp only [Nm.v, Bd.v] at *
  rw [hl]
  clear h3 h4 k3 k4 hm hd hl hw h1 h2 k1 k2
  generalize m.z.length = ml at *
  generalize y.a = ya at *
  generalize y.c = yc at *
  generalize x.a = xa at *
  generalize x.c = xc at *
  obtain ⟨O, hO⟩ : ∃ O : Nat → Nat, O = ofc y.z x.l d := ⟨_, rfl⟩
  obtain ⟨Z, hZ⟩ : ∃ Z : Nat → Int, Z = fun i => y.z.getD i 0 := ⟨_, rfl⟩
  obtain ⟨B, hB⟩ : ∃ B : Nat → Bool, B = fun i => x.l.getD i false := ⟨_, rfl⟩
  obtain ⟨V, hV⟩ : ∃ V : Nat → Nat, V = ep d := ⟨_, rfl⟩
  have LC : Hid (∀ i, i < y.z.length → w.cell? ⟨b, o + i, none⟩ = some (.int .i64 (Z i))) := by rw [hZ]; exact LC.out
  have BC : Hid (∀ i, i < y.z.length → w.cell? ⟨xb, xo + i, none⟩ = some (.bool (B i))) := by rw [hB]; exact BC.out
  have NX : Hid (∀ k, O (k + 1) = O k + (if (((V k : Nat) : Int) != Z k) && !B k then 1 else 0)) := by rw [hO, hV, hZ, hB]; exact NX.out
  have OL : Hid (∀ k, O k ≤ k) := by rw [hO]; exact OL.out
  have OZ : Hid (O 0 = 0) := by rw [hO]; exact OZ.out
  rw [← hV] at c1
  have HV : Hid (∀ W v, OwnN w W v (zl (nl V y.z.length)) → ∃ a c vb vo, v = .slice a y.z.length c ∧ (0 < y.z.length → a = some ⟨vb, vo, none⟩) ∧ ∀ i, i < y.z.length → W.cell? ⟨vb, vo + i, none⟩ = some (.int .i64 (V i : Nat))) := by rw [hV]; exact HV.out
  rw [← hO]
  clear hO hZ hB hV
  generalize y.z.length = n at *
  go_enter Tryd.func21, Tryd.ntmps21
  go_wp2_with fail
  refine c1.mono ?_
  rintro e w1 ⟨v, rfl, OV⟩
  clear c1
  obtain ⟨va, vc, vb, vo, rfl, q3, q4⟩ := HV.out w1 v OV
  have VC : Hid (∀ i, i < n → w1.cell? ⟨vb, vo + i, none⟩ = some (.int .i64 (V i : Nat))) := q4
  have VA : Hid (0 < n → va = some ⟨vb, vo, none⟩) := q3
  have E1 : Hid (Ext w w1) := OV.1
  clear HV OV q3 q4
  go_wp2
  go_loopg [7, 8, 9, 15] n (fun gg s7 _ _ s15 wr => ∃ k : Nat, k ≤ n ∧ n - k ≤ gg ∧ s15 = .int .i64 k ∧ s7 = .int .i64 (O k : Nat) ∧ wr = w1)
  case atStart => exact ⟨0, by omega, by omega, rfl, by rw [OZ.out]; rfl, rfl⟩
  case round =>
    obtain ⟨k, hk, hgg, rfl, rfl, rfl⟩ := hrel
    by_cases hlt : k < n
    · have hltz : (k : Int) < (n : Int) := by omega
      obtain rfl := LA.out (by omega)
      obtain rfl := BA.out (by omega)
      obtain rfl := VA.out (by omega)
      have e1 := E1.out.cell (LC.out k hlt)
      have e2 := E1.out.cell (BC.out k hlt)
      have e3 := VC.out k hlt
      have nx := NX.out k
      have ol := OL.out k
      clear LC BC VC NX OL OZ LA BA VA
      cases hq : ((V k : Int) != Z k)
      · have NX2 : Hid (O (k + 1) = O k) := by rw [Hid, nx, hq]; rfl
        clear nx
        generalize V k = vk at *
        generalize Z k = zk at *
        generalize B k = bk at *
        generalize hOk : O k = ok at *
        clear hOk
        go_wp2
        go_roundg (n - (k + 1))
        case measure => omega
        case rel => exact ⟨k + 1, by omega, by omega, by go_num, by rw [NX2.out], rfl⟩
      · cases hb : B k
        · have NX2 : Hid (O (k + 1) = O k + 1) := by rw [Hid, nx, hq, hb]; rfl
          rw [hb] at e2
          clear nx hb
          generalize V k = vk at *
          generalize Z k = zk at *
          generalize hOk : O k = ok at *
          clear hOk
          go_wp2
          go_roundg (n - (k + 1))
          case measure => omega
          case rel => exact ⟨k + 1, by omega, by omega, by go_num, by rw [NX2.out]; go_num, rfl⟩
        · have NX2 : Hid (O (k + 1) = O k) := by rw [Hid, nx, hq, hb]; rfl
          rw [hb] at e2
          clear nx hb
          generalize V k = vk at *
          generalize Z k = zk at *
          generalize hOk : O k = ok at *
          clear hOk
          go_wp2
          go_roundg (n - (k + 1))
          case measure => omega
          case rel => exact ⟨k + 1, by omega, by omega, by go_num, by rw [NX2.out], rfl⟩
    · obtain rfl : k = n := by omega
      go_wp2
      go_ret
      exact ⟨rfl, E1.out⟩

end Go.Proofs.YtjdipgkdaloclaaDoor
