/-
  (trellis.state).writes, (trellis.state).next.
-/
import Derived.Test.YtnkhlohoaoiefaaDoorRw
import Derived.Deep.WholeRow
namespace Go.Proofs.YtnkhlohoaoiefaaDoor
open Go.RowKit
set_option linter.unusedVariables false

theorem underState : Tryd.prog.underlying 37 = some (.array 2 4) := by kernel_rfl
theorem underPair : Tryd.prog.underlying 42 = some (.array 2 4) := by kernel_rfl
theorem sizeState : (Tryd.prog.info? 37).map (·.size) = some 2 := by kernel_rfl
theorem sizePair : (Tryd.prog.info? 42).map (·.size) = some 2 := by kernel_rfl

/-- A state, or a pair, as a value. -/
abbrev pv (a b : Bool) : Value := .agg #[.bool a, .bool b]

theorem writes_any (s0 s1 q : Bool) (w : World) : Calls Tryd.prog 19 #[pv s0 s1, .bool q] w fun e w' => e = .returned (pv ((q != s1) != s0) (q != s1)) ∧ Ext w w' := by
  go_enter Tryd.func19, Tryd.ntmps19
  go_wp2
  exact bodyPost_ret (results_cell_row rfl _ _ (w.heap.size + 1) 42 _ (0, 0) _ rfl (heap_alloc2_new _ _ _) underPair rfl sizePair) rfl ⟨rfl, ((Ext.refl w).alloc _).alloc _⟩

theorem next_any (s0 s1 q : Bool) (w : World) : Calls Tryd.prog 20 #[pv s0 s1, .bool q] w fun e w' => e = .returned (pv q s0) ∧ Ext w w' := by
  go_enter Tryd.func20, Tryd.ntmps20
  go_wp2
  exact bodyPost_ret (results_cell_row rfl _ _ (w.heap.size + 1) 37 _ (0, 0) _ rfl (heap_alloc2_new _ _ _) underState rfl sizeState) rfl ⟨rfl, ((Ext.refl w).alloc _).alloc _⟩

end Go.Proofs.YtnkhlohoaoiefaaDoor
