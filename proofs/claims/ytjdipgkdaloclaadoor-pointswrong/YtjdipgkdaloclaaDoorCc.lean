/-
  points.checkCounts, quipuref.PointsCheck, points.pointOf.
-/
import Derived.Test.YtjdipgkdaloclaaDoorOwn
import Derived.Shelf.Abstract
namespace Go.Proofs.YtjdipgkdaloclaaDoor
open Go.RowKit

/-- What is told of so many numbers and so many places. -/
def pc (m n : Int) : Int := if n < 0 ∨ 9 < n then 1 else if m < 1 ∨ n < m then 3 else 0
theorem pc_zero {m n : Int} (h : pc m n = 0) : 0 ≤ n ∧ n ≤ 9 ∧ 1 ≤ m ∧ m ≤ n := by
  unfold pc at h
  split at h
  · omega
  · split at h
    · omega
    · omega
theorem pc_good {m n : Int} (h1 : 1 ≤ m) (h2 : m ≤ n) (h3 : n ≤ 9) : pc m n = 0 := by
  unfold pc
  rw [if_neg (by omega), if_neg (by omega)]
theorem pc_large {m n : Int} (h : n < 0 ∨ 9 < n) : pc m n = 1 := if_pos h
theorem pc_form {m n : Int} (h : ¬ (n < 0 ∨ 9 < n)) (h2 : m < 1 ∨ n < m) : pc m n = 3 := by
  unfold pc
  rw [if_neg h, if_pos h2]
theorem pc_or (m n : Int) : pc m n = 0 ∨ pc m n = 1 ∨ pc m n = 3 := by
  unfold pc
  split
  · exact .inr (.inl rfl)
  · split
    · exact .inr (.inr rfl)
    · exact .inl rfl

theorem counts_any (m n : Int) (w : World) : Calls Tryd.prog 12 #[.int .i64 m, .int .i64 n] w fun e w' => e = .returned (.int .i64 (pc m n)) ∧ w' = w := by
  rcases Int.lt_or_le n 0 with h | h
  · rw [pc_large (.inl h)]
    go_enter Tryd.func12, Tryd.ntmps12
    go_wp2
    go_ret
    exact ⟨rfl, rfl⟩
  · rcases Int.lt_or_le 9 n with h9 | h9
    · rw [pc_large (.inr h9)]
      go_enter Tryd.func12, Tryd.ntmps12
      go_wp2
      go_ret
      exact ⟨rfl, rfl⟩
    · rcases Int.lt_or_le m 1 with h1 | h1
      · rw [pc_form (by omega) (.inl h1)]
        go_enter Tryd.func12, Tryd.ntmps12
        go_wp2
        go_ret
        exact ⟨rfl, rfl⟩
      · rcases Int.lt_or_le n m with h2 | h2
        · rw [pc_form (by omega) (.inr h2)]
          go_enter Tryd.func12, Tryd.ntmps12
          go_wp2
          go_ret
          exact ⟨rfl, rfl⟩
        · rw [pc_good h1 h2 h9]
          go_enter Tryd.func12, Tryd.ntmps12
          go_wp2
          go_ret
          exact ⟨rfl, rfl⟩

theorem refCounts_any (m : Int) (x : Nm) (w : World) : Calls Tryd.prog 6 #[.int .i64 m, x.v] w fun e w' => e = .returned (.int .i64 (pc m x.z.length)) ∧ w' = w := by
  simp only [Nm.v]
  have h : (0 : Int) ≤ (x.z.length : Int) := by omega
  generalize x.z.length = n at *
  generalize x.a = a
  generalize x.c = c
  rcases Int.lt_or_le 9 (n : Int) with h9 | h9
  · rw [pc_large (.inr h9)]
    go_enter Tryd.func6, Tryd.ntmps6
    go_wp2
    go_ret
    exact ⟨rfl, rfl⟩
  · rcases Int.lt_or_le m 1 with h1 | h1
    · rw [pc_form (by omega) (.inl h1)]
      go_enter Tryd.func6, Tryd.ntmps6
      go_wp2
      go_ret
      exact ⟨rfl, rfl⟩
    · rcases Int.lt_or_le (n : Int) m with h2 | h2
      · rw [pc_form (by omega) (.inr h2)]
        go_enter Tryd.func6, Tryd.ntmps6
        go_wp2
        go_ret
        exact ⟨rfl, rfl⟩
      · rw [pc_good h1 h2 h9]
        go_enter Tryd.func6, Tryd.ntmps6
        go_wp2
        go_ret
        exact ⟨rfl, rfl⟩

theorem pointOf_any (p : Nat) (hp : p < 1000000000) (w : World) : Calls Tryd.prog 25 #[.int .i64 p] w fun e w' => e = .returned (.int .i64 ((p : Int) + 1)) ∧ w' = w := by
  go_enter Tryd.func25, Tryd.ntmps25
  go_wp2
  go_ret
  exact ⟨rfl, rfl⟩

end Go.Proofs.YtjdipgkdaloclaaDoor
