/-
  quipuref.ReadGamma: the document's number that bits begin with.
-/
import Derived.Test.YtenpinjbeejamaaRfr
import Derived.Test.YtenpinjbeejamaaOpen
namespace Go.Proofs.Ytenpinjbeejamaa
open Go.RowKit

set_option maxHeartbeats 4000000 in
theorem refReadGamma_any (x : Wd) (w : World) (hx : Bits w x) (hlen : x.l.length ≤ 140737488355328) : Calls Try.prog 15 #[x.v, .bool false] w fun e w' => e = .returned (rw2 (rdG x.l)) ∧ w' = w := by
  obtain ⟨xa, xc, xl⟩ := x
  obtain ⟨h1, h2, _, b, o, h3, h4⟩ := hx
  simp only [Wd.v] at *
  have hzl := zr_le xl
  have HZ : Hid (∀ k, k < xl.length → (∀ i, i < k → xl.getD i false = false) → xl.getD k false = true → zr xl = k) := fun k => zr_at xl k
  have HZ0 : Hid ((∀ i, i < xl.length → xl.getD i false = false) → zr xl = xl.length) := zr_none xl
  have F1 : Hid (21 < zr xl + 1 → rdG xl = none) := rdG_many xl
  have F2 : Hid (xl.length < zr xl + (zr xl + 1) → rdG xl = none) := rdG_short xl
  have F3 : Hid (zr xl + (zr xl + 1) ≤ xl.length → 1048576 < vn 0 ((xl.drop (zr xl)).take (zr xl + 1)) → rdG xl = none) := rdG_great xl
  have F4 : Hid (zr xl + (zr xl + 1) ≤ xl.length → vn 0 ((xl.drop (zr xl)).take (zr xl + 1)) ≤ 1048576 → rdG xl = some (vn 0 ((xl.drop (zr xl)).take (zr xl + 1)), zr xl + (zr xl + 1))) := rdG_fine xl
  have HNU : Hid (zr xl + 1 ≤ 21 → zr xl + (zr xl + 1) ≤ xl.length → Calls Try.prog 24 #[.slice (some ⟨b, o + zr xl, none⟩) (zr xl + 1) (xc - zr xl)] w fun e w' => e = .returned (.int .i64 (vn 0 ((xl.drop (zr xl)).take (zr xl + 1)) : Nat)) ∧ w' = w) := by
    intro g1 g2
    have hs := Bits.sub h1 (by unfold maxLen at h2; exact h2) h4 (zr xl) (zr xl + 1) g2
    have hl : ((xl.drop (zr xl)).take (zr xl + 1)).length = zr xl + 1 := by simp; omega
    have hnn := number_any _ w hs (by simp only; rw [hl]; exact g1)
    simp only [Wd.v] at hnn
    rw [hl] at hnn
    exact hnn
  generalize vn 0 ((xl.drop (zr xl)).take (zr xl + 1)) = V at *
  generalize rdG xl = R at *
  generalize zr xl = z at *
  unfold maxLen at h2
  generalize xl.length = n at *
  go_enter Try.func15, Try.ntmps15
  go_wp2
  go_loopg [6] n (fun gg v wr => wr = w ∧ ∃ k : Nat, k ≤ n ∧ n - k ≤ gg ∧ v = .int .i64 k ∧ Aside (∀ i, i < k → xl.getD i false = false))
  case atStart => exact ⟨rfl, 0, Nat.zero_le _, by omega, rfl, fun i hi => absurd hi (Nat.not_lt_zero _)⟩
  case round =>
    obtain ⟨rfl, k, hk, hgg, rfl, A⟩ := hrel
    by_cases hlt : k < n
    · have hltz : (k : Int) < (n : Int) := by omega
      obtain rfl := h3 (by omega)
      have e1 := h4 k hlt
      have Y := A.out
      cases hy : xl.getD k false with
      | false =>
        have A2 : Hid (∀ i, i < k + 1 → xl.getD i false = false) := fun i hi => by
          rcases Nat.lt_succ_iff_lt_or_eq.1 hi with h' | rfl
          · exact Y i h'
          · exact hy
        rw [hy] at e1
        clear A Y hy h3 h4
        go_wp2
        go_roundg (n - (k + 1))
        case measure => omega
        case rel => exact ⟨rfl, k + 1, by omega, by omega, by go_num, A2.out⟩
      | true =>
        have hz : z = k := HZ.out k hlt Y hy
        subst hz
        rw [hy] at e1
        clear A Y hy h3 h4 HZ HZ0
        by_cases g1 : 21 < z + 1
        · have hr : Hid (R = none) := F1.out g1
          have g1z : (z : Int) + 1 > 21 := by omega
          go_wp2
          go_ret2
          exact ⟨ret_val (by rw [hr.out]; rfl), rfl⟩
        · have g1z : ¬ ((z : Int) + 1 > 21) := by omega
          by_cases g2 : n < z + (z + 1)
          · have hr : Hid (R = none) := F2.out g2
            have g2z : (z : Int) + ((z : Int) + 1) > (n : Int) := by omega
            go_wp2
            go_ret2
            exact ⟨ret_val (by rw [hr.out]; rfl), rfl⟩
          · have g2z : ¬ ((z : Int) + ((z : Int) + 1) > (n : Int)) := by omega
            have g3z : (z : Int) + ((z : Int) + 1) ≤ (xc : Int) := by omega
            have g4 : ¬ xc = z := by omega
            have hnu := HNU.out (by omega) (by omega)
            go_wp2_with fail
            refine hnu.mono ?_
            rintro e w1 ⟨rfl, rfl⟩
            clear hnu HNU
            by_cases g5 : V ≤ 1048576
            · have hr : Hid (R = some (V, z + (z + 1))) := F4.out (by omega) g5
              have g5z : ¬ ((V : Int) > 1048576) := by omega
              go_wp2
              go_ret2
              exact ⟨ret_val (by rw [hr.out]; exact rw2_some _ _ _ (by omega)), rfl⟩
            · have hr : Hid (R = none) := F3.out (by omega) (by omega)
              have g5z : (V : Int) > 1048576 := by omega
              go_wp2
              go_ret2
              exact ⟨ret_val (by rw [hr.out]; rfl), rfl⟩
    · have hz : z = n := HZ0.out (fun i hi => A.out i (by omega))
      subst hz
      obtain rfl : k = z := by omega
      have hr : Hid (R = none) := F2.out (by omega)
      clear A F1 F2 F3 F4 HNU HZ HZ0 h3 h4
      by_cases g1 : 21 < k + 1
      · have g1z : (k : Int) + 1 > 21 := by omega
        go_wp2
        go_ret2
        exact ⟨ret_val (by rw [hr.out]; rfl), rfl⟩
      · have g1z : ¬ ((k : Int) + 1 > 21) := by omega
        have g2z : (k : Int) + ((k : Int) + 1) > (k : Int) := by omega
        go_wp2
        go_ret2
        exact ⟨ret_val (by rw [hr.out]; rfl), rfl⟩

end Go.Proofs.Ytenpinjbeejamaa
