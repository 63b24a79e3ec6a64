/-
  Numbers that a caller has put in a row just now are asked.
-/
import Derived.Test.YtllkfadghdnhhabChk
import Derived.Test.YtllkfadghdnhhabPd
namespace Go.Proofs.Ytllkfadghdnhhab
open Go.RowKit

/-- A row of numbers that the caller has made just now. -/
theorem made_row (w : World) (z : List Int) : Row (w.alloc (.cells (z.map (Value.int .i64)).toArray 3)) w.heap.size 3 (z.map (Value.int .i64)) := heap_alloc_new _ _

theorem check_row (z : List Int) (hm : z.length ≤ maxLen) (w : World) : Calls Try.prog 7 #[.slice (some ⟨w.heap.size, 0, none⟩) z.length z.length] (w.alloc (.cells (z.map (Value.int .i64)).toArray 3)) fun e w' =>
    e = .returned (.int .i64 (fe z)) ∧ w' = w.alloc (.cells (z.map (Value.int .i64)).toArray 3) :=
  check_any ⟨some ⟨w.heap.size, 0, none⟩, z.length, z⟩ _ ((made_row w z).nums hm)

theorem refCheck_row (z : List Int) (hm : z.length ≤ maxLen) (w : World) : Calls Try.prog 6 #[.slice (some ⟨w.heap.size, 0, none⟩) z.length z.length] (w.alloc (.cells (z.map (Value.int .i64)).toArray 3)) fun e w' =>
    e = .returned (.int .i64 (fe z)) ∧ w' = w.alloc (.cells (z.map (Value.int .i64)).toArray 3) :=
  refCheck_any ⟨some ⟨w.heap.size, 0, none⟩, z.length, z⟩ _ ((made_row w z).nums hm)

theorem numbers_row (z : List Int) (hm : z.length ≤ maxLen) (w : World) : Calls Try.prog 4 #[.slice (some ⟨w.heap.size, 0, none⟩) z.length z.length] (w.alloc (.cells (z.map (Value.int .i64)).toArray 3)) fun e w' =>
    e = .returned (.bool (fe z == 0)) ∧ w' = w.alloc (.cells (z.map (Value.int .i64)).toArray 3) :=
  numbers_any ⟨some ⟨w.heap.size, 0, none⟩, z.length, z⟩ _ ((made_row w z).nums hm)

theorem check_one (a : Nat) (ha : a < 16) (w : World) : Calls Try.prog 7 #[.slice (some ⟨w.heap.size, 0, none⟩) 1 1] (w.alloc (.cells #[.int .i64 a] 3)) fun e w' => e = .returned (.int .i64 0) ∧ w' = w.alloc (.cells #[.int .i64 a] 3) := by
  have := check_row [(a : Int)] (by simp [maxLen]) w
  rw [fe_good (by intro x hx; simp at hx; omega)] at this
  exact this

end Go.Proofs.Ytllkfadghdnhhab
