/-
  Numbers that lie one behind the other.
-/
import Derived.Test.YtchnlbanhkigjaaOwn
import Derived.Test.YtchnlbanhkigjaaDud
import Derived.Shelf.Abstract
namespace Go.Proofs.Ytchnlbanhkigjaa
open Go.RowKit

theorem getD_drop (z : List Int) (k i : Nat) : (z.drop k).getD i 0 = z.getD (k + i) 0 := by
  simp [List.getD_eq_getElem?_getD]

/-- Numbers that lie one behind the other. -/
def At (w : World) (b o : Nat) (z : List Int) : Prop := ∀ i, i < z.length → w.cell? ⟨b, o + i, none⟩ = some (.int .i64 (z.getD i 0))
theorem At.ext {w w' : World} {b o : Nat} {z : List Int} (h : At w b o z) (e : Ext w w') : At w' b o z := fun i hi => e.cell (h i hi)
theorem At.drop {w : World} {b o : Nat} {z : List Int} (h : At w b o z) (k : Nat) : At w b (o + k) (z.drop k) := fun i hi => by
  rw [List.length_drop] at hi
  have := h (k + i) (by omega)
  rw [getD_drop, show o + k + i = o + (k + i) by omega]
  exact this
theorem At.take {w : World} {b o : Nat} {z : List Int} (h : At w b o z) (k : Nat) : At w b o (z.take k) := fun i hi => by
  rw [List.length_take] at hi
  rw [h i (by omega)]
  simp [List.getD_eq_getElem?_getD, show i < k by omega]

end Go.Proofs.Ytchnlbanhkigjaa
