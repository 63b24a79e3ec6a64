/-
  quipuref.number, quipuref.ReadGamma: the document's number that bits begin with.
-/
import Derived.Test.YtenpinjbeejamaaRdg
namespace Go.Proofs.Ytenpinjbeejamaa
open Go.RowKit

theorem drop_zr (l : List Bool) (h : zr l < l.length) : l.drop (zr l) = true :: l.drop (zr l + 1) := by
  have := zr_split l h
  generalize zr l = z at *
  have e : l.drop z = (List.replicate z false ++ true :: l.drop (z + 1)).drop z := congrArg (List.drop z) this
  rw [e, List.drop_append_of_le_length (by simp), List.drop_of_length_le (by simp), List.nil_append]

theorem vn_zr (l : List Bool) (h : zr l < l.length) : vn 0 ((l.drop (zr l)).take (zr l + 1)) = vn 1 ((l.drop (zr l + 1)).take (zr l)) := by
  rw [drop_zr l h, List.take_succ_cons]
  rfl

theorem vn_big (k : Nat) (l : List Bool) (h : k ≤ l.length) : 2 ^ k ≤ vn 1 l := by
  have := vn_ge l 1
  have h2 : 2 ^ k ≤ 2 ^ l.length := Nat.pow_le_pow_right (by omega) h
  omega

theorem rdG_many (l : List Bool) (h : 21 < zr l + 1) : rdG l = none := by
  unfold rdG
  split
  · by_cases hs : zr l + 1 + zr l ≤ l.length
    · have := vn_big 21 ((l.drop (zr l + 1)).take (zr l)) (by simp; omega)
      exact rd_great (by omega)
    · exact rd_short (by omega)
  · rfl
theorem rdG_short (l : List Bool) (h : l.length < zr l + (zr l + 1)) : rdG l = none := by
  unfold rdG
  split
  · exact rd_short (by omega)
  · rfl
theorem rdG_great (l : List Bool) (h1 : zr l + (zr l + 1) ≤ l.length) (h : 1048576 < vn 0 ((l.drop (zr l)).take (zr l + 1))) : rdG l = none := by
  unfold rdG
  rw [if_pos (by omega)]
  rw [vn_zr l (by omega)] at h
  exact rd_great h
theorem rdG_fine (l : List Bool) (h1 : zr l + (zr l + 1) ≤ l.length) (h : vn 0 ((l.drop (zr l)).take (zr l + 1)) ≤ 1048576) : rdG l = some (vn 0 ((l.drop (zr l)).take (zr l + 1)), zr l + (zr l + 1)) := by
  unfold rdG
  rw [if_pos (by omega)]
  rw [vn_zr l (by omega)] at h ⊢
  rw [rd_fine (by omega) h]
  congr 2
  omega

theorem rdD_none (l : List Bool) (h : rdG l = none) : rdD l = none := by unfold rdD; rw [h]; rfl
theorem rdD_some' (l : List Bool) (c u : Nat) (h : rdG l = some (c, u)) : rdD l = rd l u (c - 1) := by unfold rdD; rw [h]; rfl
theorem rd_many (l : List Bool) (s m : Nat) (h : 21 ≤ m) : rd l s m = none := by
  by_cases hs : s + m ≤ l.length
  · have := vn_big 21 ((l.drop s).take m) (by simp; omega)
    exact rd_great (by omega)
  · exact rd_short (by omega)
theorem rdD_zeros (l : List Bool) (h : 4 < zr l) : rdD l = none := by
  cases hg : rdG l with
  | none => exact rdD_none l hg
  | some p =>
    obtain ⟨c, u⟩ := p
    rw [rdD_some' l c u hg]
    unfold rdG at hg
    split at hg
    · obtain ⟨h1, _, _, h4⟩ := rd_some hg
      have := vn_big 5 ((l.drop (zr l + 1)).take (zr l)) (by simp; omega)
      exact rd_many l u _ (by omega)
    · cases hg

/-- What the document's reader answers. -/
def rw2 : Option (Nat × Nat) → Value
  | none => .tuple #[.int .i64 0, .int .i64 0]
  | some p => .tuple #[.int .i64 (p.1 : Int), .int .i64 (p.2 : Int)]
theorem rw2_some (v e : Nat) (z : Int) (h : z = e) : Value.tuple #[.int .i64 (v : Int), .int .i64 z] = rw2 (some (v, e)) := by subst h; rfl

theorem Bits.sub {w : World} {b o c : Nat} {l : List Bool} (h1 : l.length ≤ c) (h2 : c ≤ 2 ^ 63 - 1) (h4 : ∀ i, i < l.length → w.cell? ⟨b, o + i, none⟩ = some (.bool (l.getD i false))) (s m : Nat) (h : s + m ≤ l.length) :
    Bits w ⟨some ⟨b, o + s, none⟩, c - s, (l.drop s).take m⟩ := by
  have hl : ((l.drop s).take m).length = m := by simp; omega
  refine ⟨by simp only [hl]; omega, by unfold maxLen; simp only; omega, by simp, b, o + s, fun _ => rfl, fun i hi => ?_⟩
  simp only [hl] at hi
  rw [Nat.add_assoc, h4 (s + i) (by omega)]
  simp [List.getD_eq_getElem?_getD, hi, List.getElem?_drop]

set_option maxHeartbeats 2000000 in
theorem number_any (x : Wd) (w : World) (hx : Bits w x) (h21 : x.l.length ≤ 21) : Calls Try.prog 24 #[x.v] w fun e w' => e = .returned (.int .i64 (vn 0 x.l : Nat)) ∧ w' = w := by
  obtain ⟨xa, xc, xl⟩ := x
  obtain ⟨h1, h2, _, b, o, h3, h4⟩ := hx
  simp only [Wd.v] at *
  unfold maxLen at h2
  have HB : Hid (∀ k, k ≤ xl.length → vn 0 (xl.take k) ≤ 2097152) := fun k hk => by
    have a1 := vn_lt (xl.take k) 0
    have a2 : 2 ^ (xl.take k).length ≤ 2 ^ 21 := Nat.pow_le_pow_right (by omega) (by simp; omega)
    omega
  have HS : Hid (∀ k, k < xl.length → vn 0 (xl.take (k + 1)) = 2 * vn 0 (xl.take k) + (xl.getD k false).toNat) := fun k hk => by
    rw [List.take_succ_eq_append_getElem hk, vn_snoc]
    simp [List.getD_eq_getElem?_getD, hk]
  have HE : Hid (vn 0 xl = vn 0 (xl.take xl.length)) := by show _ = _; rw [List.take_length]
  generalize vn 0 xl = r at *
  generalize xl.length = n at *
  go_enter Try.func24, Try.ntmps24
  go_wp2
  go_loopg [3, 5, 8] n (fun gg s3 _ s8 wr => wr = w ∧ ∃ k v : Nat, k ≤ n ∧ n - k ≤ gg ∧ v ≤ 2097152 ∧ s3 = .int .i64 v ∧ s8 = .int .i64 k ∧ Hid (v = vn 0 (xl.take k)))
  case atStart => exact ⟨rfl, 0, 0, Nat.zero_le _, by omega, by omega, rfl, rfl, by show 0 = _; simp [vn_nil]⟩
  case round =>
    obtain ⟨rfl, k, v, hk, hgg, hv, rfl, rfl, A⟩ := hrel
    by_cases hlt : k < n
    · have hltz : (k : Int) < (n : Int) := by omega
      obtain rfl := h3 (by omega)
      have e1 := h4 k hlt
      clear h3 h4
      have hst := HS.out k hlt
      have hbd := HB.out (k + 1) (by omega)
      rw [← A.out] at hst
      cases hb : xl.getD k false with
      | false =>
        rw [hb] at e1 hst
        have hn2 : Hid (vn 0 (xl.take (k + 1)) = 2 * v) := by show _ = _; simpa using hst
        have hle : 2 * v ≤ 2097152 := by rw [← hn2.out]; exact hbd
        clear hst hbd hb A HB HS HE
        go_wp2
        go_roundg (n - (k + 1))
        case measure => omega
        case rel => exact ⟨rfl, k + 1, 2 * v, by omega, by omega, hle, by go_num, by go_num, hn2.out.symm⟩
      | true =>
        rw [hb] at e1 hst
        have hn2 : Hid (vn 0 (xl.take (k + 1)) = 2 * v + 1) := by show _ = _; simpa using hst
        have hle : 2 * v + 1 ≤ 2097152 := by rw [← hn2.out]; exact hbd
        clear hst hbd hb A HB HS HE
        go_wp2
        go_roundg (n - (k + 1))
        case measure => omega
        case rel => exact ⟨rfl, k + 1, 2 * v + 1, by omega, by omega, hle, by go_num, by go_num, hn2.out.symm⟩
    · have hr : Hid (v = r) := by
        show v = r
        have hkn : k = n := by omega
        rw [A.out, HE.out, hkn]
      clear A HB HS HE h4
      go_wp2
      go_ret
      exact ⟨ret_int (by rw [hr.out]), rfl⟩

end Go.Proofs.Ytenpinjbeejamaa
