/-
  span.Span, span.Put.
-/
import Derived.Test.YtdfjjjcaibadoaaDoorSs
namespace Go.Proofs.YtdfjjjcaibadoaaDoor
open Go.RowKit

theorem rows_32 {n : Nat} (hn : n ≤ 12) {g : List Nat} (h : ∀ y ∈ g, y < 2 ^ n) : ∀ y ∈ g, y < 4294967296 := fun y hy => by
  have := h y hy
  have hM : 2 ^ n ≤ 2 ^ 12 := Nat.pow_le_pow_right (by omega) hn
  omega

end Go.Proofs.YtdfjjjcaibadoaaDoor
