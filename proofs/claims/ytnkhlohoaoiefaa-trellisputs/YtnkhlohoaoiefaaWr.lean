/-
  (trellis.state).writes, (trellis.state).next.
-/
import Derived.Test.YtnkhlohoaoiefaaRw
import Derived.Deep.WholeRow
namespace Go.Proofs.Ytnkhlohoaoiefaa
open Go.RowKit
set_option linter.unusedVariables false

theorem underState : Try.prog.underlying 30 = some (.array 2 4) := by kernel_rfl
theorem underPair : Try.prog.underlying 32 = some (.array 2 4) := by kernel_rfl
theorem sizeState : (Try.prog.info? 30).map (·.size) = some 2 := by kernel_rfl
theorem sizePair : (Try.prog.info? 32).map (·.size) = some 2 := by kernel_rfl

/-- A state, or a pair, as a value. -/
abbrev pv (a b : Bool) : Value := .agg #[.bool a, .bool b]

theorem writes_any (s0 s1 q : Bool) (w : World) : Calls Try.prog 8 #[pv s0 s1, .bool q] w fun e w' => e = .returned (pv ((q != s1) != s0) (q != s1)) ∧ Ext w w' := by
  go_enter Try.func8, Try.ntmps8
  go_wp2
  exact bodyPost_ret (results_cell_row rfl _ _ (w.heap.size + 1) 32 _ (0, 0) _ rfl (heap_alloc2_new _ _ _) underPair rfl sizePair) rfl ⟨rfl, ((Ext.refl w).alloc _).alloc _⟩

theorem next_any (s0 s1 q : Bool) (w : World) : Calls Try.prog 9 #[pv s0 s1, .bool q] w fun e w' => e = .returned (pv q s0) ∧ Ext w w' := by
  go_enter Try.func9, Try.ntmps9
  go_wp2
  exact bodyPost_ret (results_cell_row rfl _ _ (w.heap.size + 1) 30 _ (0, 0) _ rfl (heap_alloc2_new _ _ _) underState rfl sizeState) rfl ⟨rfl, ((Ext.refl w).alloc _).alloc _⟩

end Go.Proofs.Ytnkhlohoaoiefaa
