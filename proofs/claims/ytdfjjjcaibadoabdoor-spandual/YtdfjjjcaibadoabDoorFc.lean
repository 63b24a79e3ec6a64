/-
  Small facts of rows.
-/
import Derived.Test.YtdfjjjcaibadoabDoorSu
namespace Go.Proofs.YtdfjjjcaibadoabDoor
open Go.RowKit

theorem rows_low {n : Nat} (hn : n ≤ 12) {g : List Nat} (h : ∀ y ∈ g, y < 2 ^ n) : ∀ y ∈ g, y < 4294967296 := fun y hy => by
  have := h y hy
  have hM : 2 ^ n ≤ 2 ^ 12 := Nat.pow_le_pow_right (by omega) hn
  omega
theorem new_cell (w : World) (v : Value) (t : TypeId) : (w.alloc (.cells #[v] t)).cell? ⟨w.heap.size, 0, none⟩ = some v := cell_one_new w v t 0 v rfl

end Go.Proofs.YtdfjjjcaibadoabDoor
