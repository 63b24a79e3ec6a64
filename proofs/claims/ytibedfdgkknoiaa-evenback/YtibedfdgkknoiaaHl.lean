/-
  What the laws share: the same bits; what each call hands on, as a word.
-/
import Derived.Test.YtibedfdgkknoiaaGe
namespace Go.Proofs.Ytibedfdgkknoiaa
open Go.RowKit
set_option linter.unusedVariables false

theorem same_any (y z : Wd) (w : World) (hy : Bits w y) (hz : Bits w z) (h : y.l = z.l) : Calls Try.prog 11 #[y.v, z.v] w fun e w' => e = .returned (.bool true) ∧ Ext w w' := by
  refine (bools_any y z w hy hz).mono ?_
  rintro e w' ⟨rfl, q⟩
  exact ⟨ret_bool (by rw [h]; simp), q.ext⟩
theorem OwnB.word {w w' : World} {v : Value} {l : List Bool} (h : OwnB w w' v l) : ∃ y : Wd, v = y.v ∧ y.l = l ∧ Bits w' y ∧ Ext w w' := by
  obtain ⟨y, h1, h2, h3⟩ := h.bits
  exact ⟨y, h1, h2, h3, h.1⟩
theorem ce_zero {n : Nat} (h : ce n = 0) : n ≤ 12 ∧ n % 2 = 0 := by
  unfold ce at h
  by_cases h1 : 12 < n
  · rw [if_pos h1] at h; cases h
  · rw [if_neg h1] at h
    by_cases h2 : n % 2 = 1
    · rw [if_pos h2] at h; cases h
    · omega
theorem ce_not {n : Nat} (h : ce n ≠ 0) : 12 < n ∨ n % 2 = 1 := by
  by_cases h1 : 12 < n
  · exact .inl h1
  · by_cases h2 : n % 2 = 1
    · exact .inr h2
    · exact absurd (ce_good (by omega) (by omega)) h
theorem ce_eq (n : Nat) : (ce n == ce n) = true := beq_iff_eq.2 rfl
end Go.Proofs.Ytibedfdgkknoiaa
