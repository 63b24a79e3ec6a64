/-
  What the laid table gives: the number of each power of two lies at its place; and the door's own heap meets the condition.
-/
import Derived.Test.YtjdipgkdaloclaaDoorPl
import Derived.Test.YtjdipgkdaloclaaDoorRows
import Derived.ProofKit
import Derived.LaidMore
import Derived.OpenShut
import Derived.MakeChecks
import Derived.Stop.Joined
namespace Go.Proofs.YtjdipgkdaloclaaDoor
open Go.ChangeShapes Go.WideShapes Go.ChangeAt Go.RowKit
set_option linter.unusedVariables false

theorem g32 : Tryd.prog.globalNamed "math/bits.deBruijn32tab" = some 0 := by kernel_rfl
theorem t32 : (Tryd.prog.globals[0]?).map (·.type) = some 57 := by kernel_rfl

/-- The table. -/
def tabN : List Nat := [0, 1, 28, 2, 29, 14, 24, 3, 30, 22, 20, 15, 25, 17, 4, 8, 31, 27, 13, 23, 21, 19, 16, 7, 26, 12, 18, 6, 11, 5, 10, 9]
theorem tabN_at : ∀ k : Fin 9, tabN[tix k.val]? = some k.val := by decide +kernel
theorem laid_tab : (Rows.laid_math_bits_deBruijn32tab : DataW Unit) = .agg (tabN.map (fun v => .lit (.int .u8 (v : Nat)))) := by rfl

theorem take_one {α : Type} {l : List α} {i : Nat} {c : α} (h : (l.drop i).take 1 = [c]) : l[i]? = some c := by
  have h2 : ((l.drop i).take 1)[0]? = some c := by rw [h]; rfl
  rw [List.getElem?_take_of_lt (by omega), List.getElem?_drop] at h2
  simpa using h2

/-- The door's own heap meets the condition. -/
theorem door_met (os : Os) (args : Array Value) : laidMetH Tryd.prog Rows.pointsFixesRow.laid ((World.doorLaid Tryd.prog 400 os).forCall (fun _ _ => 0) ⟨#[], args, []⟩).memory :=
  laidMetH_of_parts3 (fuel := 8) (laidMet_of_run' 8 (by kernel_rfl) (by kernel_rfl)) (by kernel_rfl) (by kernel_rfl)

theorem of_laid {W : World} (h : laidMetH Tryd.prog Rows.pointsFixesRow.laid W) : TB W := by
  rw [MakeChecks.laidMetH_plain _ _ _ (by kernel_rfl)] at h
  obtain ⟨ps, ⟨g1, t1, cs1, f1, p1, q1, hg1, ht1, hv1, hd1, _, _⟩, _, _⟩ := h
  obtain rfl := Option.some.inj (g32.symm.trans hg1)
  obtain rfl := Option.some.inj (t32.symm.trans ht1)
  obtain ⟨xs, m1, rfl, hx1, hlen, hn3, hel⟩ := DataW.trod_array Tryd.underlying57 hd1
  have c5 : Tryd.prog.cellsOf 5 = 1 := by kernel_rfl
  rw [laid_tab] at hx1
  simp only [Prod.mk.injEq, DataW.agg.injEq] at hx1
  intro k hk
  have ht : tix k < 32 := tix_lt0 ⟨k, by omega⟩
  have h0 := hel (tix k) ht
  rw [c5, Nat.mul_one] at h0
  obtain ⟨x, hx⟩ : ∃ x, xs[tix k]? = some x := ⟨xs[tix k]'(by omega), List.getElem?_eq_getElem (by omega)⟩
  rw [hx] at h0
  obtain ⟨v, e1, e2, _⟩ := DataW.trod_int Tryd.underlying5 h0
  have h3 : (xs.map (·.1))[tix k]? = some x.1 := by rw [List.getElem?_map, hx]; rfl
  rw [← hx1.1, List.getElem?_map, tabN_at ⟨k, by omega⟩] at h3
  rw [e2] at h3
  have hv : v = (k : Nat) := by simpa using h3.symm
  subst hv
  have := World.var?_cell hg1 hv1 (tix k)
  rw [this, ← Array.getElem?_toList]
  exact take_one e1

end Go.Proofs.YtjdipgkdaloclaaDoor
