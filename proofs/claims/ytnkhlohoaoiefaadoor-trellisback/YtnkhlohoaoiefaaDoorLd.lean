/-
  What the laid table of all states gives; and the door's own heap meets the condition.
-/
import Derived.Test.YtnkhlohoaoiefaaDoorLo
import Derived.Test.YtnkhlohoaoiefaaDoorRows
import Derived.ProofKit
import Derived.LaidMore
import Derived.OpenShut
import Derived.MakeChecks
import Derived.Stop.Joined
namespace Go.Proofs.YtnkhlohoaoiefaaDoor
open Go.ChangeShapes Go.WideShapes Go.ChangeAt Go.RowKit
set_option linter.unusedVariables false

theorem g52 : Tryd.prog.globalNamed "quipu/trellis.states" = some 0 := by kernel_rfl
theorem t52 : (Tryd.prog.globals[0]?).map (·.type) = some 52 := by kernel_rfl

/-- The door's own heap meets the condition. -/
theorem door_met (os : Os) (args : Array Value) : laidMetH Tryd.prog Rows.trellisGetsRow.laid ((World.doorLaid Tryd.prog 400 os).forCall (fun _ _ => 0) ⟨#[], args, []⟩).memory :=
  laidMetH_of_parts3 (fuel := 8) (laidMet_of_run' 8 (by kernel_rfl) (by kernel_rfl)) (by kernel_rfl) (by kernel_rfl)

theorem take_one {α : Type} {l : List α} {i : Nat} {c : α} (h : (l.drop i).take 1 = [c]) : l[i]? = some c := by
  have h2 : ((l.drop i).take 1)[0]? = some c := by rw [h]; rfl
  rw [List.getElem?_take_of_lt (by omega), List.getElem?_drop] at h2
  simpa using h2
theorem take_two {α : Type} {l : List α} {a j : Nat} {c : α} (hj : j < 2) (h : ((((l.drop a).take 2)).drop j).take 1 = [c]) : l[a + j]? = some c := by
  have h2 := take_one h
  rw [List.getElem?_take_of_lt hj, List.getElem?_drop] at h2
  exact h2

theorem var_heap {P : Program} {w : World} {n : String} {g : Nat} {cs : Array Value} (hg : P.globalNamed n = some g) (h : w.var? P n = some cs) : ∃ t fr, w.heap[g]? = some (.cells cs t fr) := by
  simp only [World.var?, hg, Option.bind_some] at h
  split at h
  · rename_i cs' t fr hh
    injection h with h
    subst h
    exact ⟨t, fr, hh⟩
  · cases h

theorem of_laid {W : World} (h : laidMetH Tryd.prog Rows.trellisGetsRow.laid W) : TB W := by
  rw [MakeChecks.laidMetH_plain _ _ _ (by kernel_rfl)] at h
  obtain ⟨ps, ⟨g1, t1, cs1, f1, p1, q1, hg1, ht1, hv1, hd1, _, _⟩, _, _⟩ := h
  obtain rfl := Option.some.inj (g52.symm.trans hg1)
  obtain rfl := Option.some.inj (t52.symm.trans ht1)
  obtain ⟨xs, m1, rfl, hx1, hlen, hn3, hel⟩ := DataW.trod_array Tryd.underlying52 hd1
  have c37 : Tryd.prog.cellsOf 37 = 2 := by kernel_rfl
  have c52 : Tryd.prog.cellsOf 52 = 8 := by kernel_rfl
  have c4 : Tryd.prog.cellsOf 4 = 1 := by kernel_rfl
  rw [c52] at hlen
  obtain ⟨t, fr, hh⟩ := var_heap hg1 hv1
  have key : ∀ i j : Nat, i < 4 → j < 2 → ∃ b, cs1.toList[i * 2 + j]? = some (.bool b) ∧ ∃ y : List (DataW Unit), (xs.map (·.1))[i]? = some (.agg y) ∧ y[j]? = some (.lit (.bool b)) := by
    intro i j hi hj
    have h0 := hel i hi
    rw [c37] at h0
    obtain ⟨x, hx⟩ : ∃ x, xs[i]? = some x := ⟨xs[i]'(by omega), List.getElem?_eq_getElem (by omega)⟩
    rw [hx] at h0
    obtain ⟨ys, m2, rfl, rfl, _, hn2, hel2⟩ := DataW.trod_array underState h0
    have h1 := hel2 j hj
    rw [c4, Nat.mul_one] at h1
    obtain ⟨y, hy⟩ : ∃ y, ys[j]? = some y := ⟨ys[j]'(by omega), List.getElem?_eq_getElem (by omega)⟩
    rw [hy] at h1
    obtain ⟨b, e1, e2⟩ := DataW.trod_bool Tryd.underlying4 h1
    refine ⟨b, take_two hj e1, ys.map (·.1), ?_, ?_⟩
    · rw [List.getElem?_map, hx]; rfl
    · rw [List.getElem?_map, hy, e2]; rfl
  have hx2 : xs.map (·.1) = [.agg [.lit (.bool false), .lit (.bool false)], .agg [.lit (.bool false), .lit (.bool true)], .agg [.lit (.bool true), .lit (.bool false)], .agg [.lit (.bool true), .lit (.bool true)]] := by
    have e : (Rows.laid_quipu_trellis_states : DataW Unit) = .agg (xs.map (·.1)) := congrArg Prod.fst hx1
    unfold Rows.laid_quipu_trellis_states at e
    injection e with e
    exact e.symm
  have at_ : ∀ i j : Nat, i < 4 → j < 2 → ∀ c, (∃ y : List (DataW Unit), (xs.map (·.1))[i]? = some (.agg y) ∧ y[j]? = some (.lit (.bool c))) → cs1.toList[i * 2 + j]? = some (.bool c) := by
    rintro i j hi hj c ⟨y, hy1, hy2⟩
    obtain ⟨b, hb, y', hy1', hy2'⟩ := key i j hi hj
    rw [hy1] at hy1'
    injection hy1' with hy1'
    injection hy1' with hy1'
    subst hy1'
    rw [hy2] at hy2'
    injection hy2' with hy2'
    injection hy2' with hy2'
    injection hy2' with hy2'
    rw [hb, hy2']
  rw [hx2] at at_
  have e0 := at_ 0 0 (by omega) (by omega) false ⟨_, rfl, rfl⟩
  have e1 := at_ 0 1 (by omega) (by omega) false ⟨_, rfl, rfl⟩
  have e2 := at_ 1 0 (by omega) (by omega) false ⟨_, rfl, rfl⟩
  have e3 := at_ 1 1 (by omega) (by omega) true ⟨_, rfl, rfl⟩
  have e4 := at_ 2 0 (by omega) (by omega) true ⟨_, rfl, rfl⟩
  have e5 := at_ 2 1 (by omega) (by omega) false ⟨_, rfl, rfl⟩
  have e6 := at_ 3 0 (by omega) (by omega) true ⟨_, rfl, rfl⟩
  have e7 := at_ 3 1 (by omega) (by omega) true ⟨_, rfl, rfl⟩
  have ecs : cs1 = tabV := by
    apply Array.toList_inj.1
    apply List.ext_getElem?
    intro i
    rcases (by omega : i = 0 ∨ i = 1 ∨ i = 2 ∨ i = 3 ∨ i = 4 ∨ i = 5 ∨ i = 6 ∨ i = 7 ∨ 8 ≤ i) with rfl | rfl | rfl | rfl | rfl | rfl | rfl | rfl | h
    · exact e0
    · exact e1
    · exact e2
    · exact e3
    · exact e4
    · exact e5
    · exact e6
    · exact e7
    · rw [List.getElem?_eq_none (by omega), List.getElem?_eq_none (by show 8 ≤ i; exact h)]
  exact ⟨t, fr, by rw [← ecs]; exact hh⟩

end Go.Proofs.YtnkhlohoaoiefaaDoor
