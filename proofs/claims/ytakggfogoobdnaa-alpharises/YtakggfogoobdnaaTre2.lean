/-
  quipuref.trees, walked.
-/
import Derived.Test.YtakggfogoobdnaaTre
namespace Go.Proofs.Ytakggfogoobdnaa
open Go.RowKit

/-- The trees that have been found: those that split ahead of k; of the split at k those whose first part is among A; and those of one first part a with a second one among B. -/
def Fnd (n k : Nat) (A : List (List Nat)) (a : List Nat) (B : List (List Nat)) (T : List (List Nat)) : Prop :=
  ∀ l, l ∈ T ↔ (∃ j x y, 0 < j ∧ j < k ∧ TT j x ∧ TT (n - j) y ∧ l = up1 (x ++ y)) ∨ (∃ x y, x ∈ A ∧ TT (n - k) y ∧ l = up1 (x ++ y)) ∨ (∃ y, y ∈ B ∧ l = up1 (a ++ y))

theorem Fnd.start (n : Nat) (a : List Nat) : Fnd n 1 [] a [] [] := by
  intro l
  constructor
  · intro h; cases h
  · rintro (⟨j, x, y, h1, h2, _⟩ | ⟨x, y, h, _⟩ | ⟨y, h, _⟩)
    · omega
    · cases h
    · cases h

theorem Fnd.one {n k : Nat} {A B T : List (List Nat)} {a b : List Nat} (h : Fnd n k A a B T) : Fnd n k A a (B ++ [b]) (T ++ [up1 (a ++ b)]) := by
  intro l
  rw [List.mem_append, h l, List.mem_singleton]
  constructor
  · rintro ((h | h | ⟨y, h, h'⟩) | rfl)
    · exact .inl h
    · exact .inr (.inl h)
    · exact .inr (.inr ⟨y, by simp [h], h'⟩)
    · exact .inr (.inr ⟨b, by simp, rfl⟩)
  · rintro (h | h | ⟨y, h, h'⟩)
    · exact .inl (.inl h)
    · exact .inl (.inr (.inl h))
    · rcases List.mem_append.1 h with h | h
      · exact .inl (.inr (.inr ⟨y, h, h'⟩))
      · simp only [List.mem_singleton] at h
        subst h
        exact .inr h'

theorem Fnd.all {n k : Nat} {A B T : List (List Nat)} {a a' : List Nat} (h : Fnd n k A a B T) (hB : ∀ l, l ∈ B ↔ TT (n - k) l) : Fnd n k (A ++ [a]) a' [] T := by
  intro l
  rw [h l]
  constructor
  · rintro (h | ⟨x, y, h1, h2⟩ | ⟨y, h, h'⟩)
    · exact .inl h
    · exact .inr (.inl ⟨x, y, by simp [h1], h2⟩)
    · exact .inr (.inl ⟨a, y, by simp, (hB y).1 h, h'⟩)
  · rintro (h | ⟨x, y, h1, h2, h3⟩ | ⟨y, h, _⟩)
    · exact .inl h
    · rcases List.mem_append.1 h1 with h1 | h1
      · exact .inr (.inl ⟨x, y, h1, h2, h3⟩)
      · simp only [List.mem_singleton] at h1
        subst h1
        exact .inr (.inr ⟨y, (hB y).2 h2, h3⟩)
    · cases h

theorem Fnd.next {n k : Nat} {A T : List (List Nat)} {a a' : List Nat} (h : Fnd n k A a [] T) (hk : 0 < k) (hA : ∀ l, l ∈ A ↔ TT k l) : Fnd n (k + 1) [] a' [] T := by
  intro l
  rw [h l]
  constructor
  · rintro (⟨j, x, y, h1, h2, h3⟩ | ⟨x, y, h1, h2, h3⟩ | ⟨y, h, _⟩)
    · exact .inl ⟨j, x, y, h1, by omega, h3⟩
    · exact .inl ⟨k, x, y, hk, by omega, (hA x).1 h1, h2, h3⟩
    · cases h
  · rintro (⟨j, x, y, h1, h2, h3, h4, h5⟩ | ⟨x, y, h, _⟩ | ⟨y, h, _⟩)
    · by_cases hj : j = k
      · subst hj
        exact .inr (.inl ⟨x, y, (hA x).2 h3, h4, h5⟩)
      · exact .inl ⟨j, x, y, h1, by omega, h3, h4, h5⟩
    · cases h
    · cases h

theorem Fnd.done {n : Nat} {T : List (List Nat)} {a : List Nat} (h : Fnd n n [] a [] T) (hn : 2 ≤ n) : ∀ l, l ∈ T ↔ TT n l := by
  intro l
  rw [h l]
  constructor
  · rintro (⟨j, x, y, h1, h2, h3, h4, rfl⟩ | ⟨x, y, h, _⟩ | ⟨y, h, _⟩)
    · have := h3.join h4 h1 (by omega)
      rwa [Nat.add_sub_cancel' (Nat.le_of_lt h2)] at this
    · cases h
    · cases h
  · intro h
    obtain ⟨k, a, b, h1, h2, h3, h4, h5⟩ := h.split hn
    exact .inl ⟨k, a, b, h1, h2, h3, h4, h5⟩

theorem pows (n k : Nat) (hk : 0 < k) (hkn : k < n) : 16 ^ (k - 1) * 16 ^ (n - k - 1) = 16 ^ (n - 2) := by
  rw [← Nat.pow_add]
  congr 1
  omega
theorem pow_last (n : Nat) (hn : 2 ≤ n) (h8 : n ≤ 8) : (n - 1) * 16 ^ (n - 2) ≤ 16 ^ (n - 1) := by
  rw [show n - 1 = (n - 2) + 1 by omega, Nat.pow_succ, Nat.mul_comm]
  exact Nat.mul_le_mul_left _ (by omega)
theorem pow_small (n : Nat) (h8 : n ≤ 8) : 16 ^ (n - 2) ≤ 16777216 := by
  have : 16 ^ (n - 2) ≤ 16 ^ 6 := Nat.pow_le_pow_right (by omega) (by omega)
  omega

theorem up1_take (a : List Nat) (i : Nat) (hi : i < a.length) : up1 (a.take (i + 1)) = up1 (a.take i) ++ [a.getD i 0 + 1] := by
  rw [List.take_succ_eq_append_getElem hi, List.getD_eq_getElem?_getD, List.getElem?_eq_getElem hi]
  simp only [up1, List.map_append, List.map_cons, List.map_nil, Option.getD_some]

end Go.Proofs.Ytakggfogoobdnaa
