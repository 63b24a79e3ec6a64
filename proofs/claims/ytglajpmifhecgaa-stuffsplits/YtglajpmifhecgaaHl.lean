/-
  What the laws share: the same bits, the same lists of words; what each call hands on, as a word.
-/
import Derived.Test.YtglajpmifhecgaaFg
import Derived.Test.YtglajpmifhecgaaLists
namespace Go.Proofs.Ytglajpmifhecgaa
open Go.RowKit
set_option linter.unusedVariables false

theorem same_any (y z : Wd) (w : World) (hy : Bits w y) (hz : Bits w z) (h : y.l = z.l) : Calls Try.prog 10 #[y.v, z.v] w fun e w' => e = .returned (.bool true) ∧ Ext w w' := by
  refine (bools_any y z w hy hz).mono ?_
  rintro e w' ⟨rfl, q⟩
  exact ⟨ret_bool (by rw [h]; simp), q.ext⟩
theorem sameLists_any (a1 a2 : Option Addr) (c1 c2 : Nat) (g1 g2 : List Wd) (w : World) (h1 : Wds w a1 c1 g1) (h2 : Wds w a2 c2 g2) (h : g1.map (·.l) = g2.map (·.l)) : Calls Try.prog 18 #[.slice a1 g1.length c1, .slice a2 g2.length c2] w fun e w' => e = .returned (.bool true) ∧ Ext w w' := by
  refine (lists_same a1 a2 c1 c2 g1 g2 w h1 h2 h).mono ?_
  rintro e w' ⟨rfl, q⟩
  exact ⟨rfl, q.ext⟩
theorem OwnB.word {w w' : World} {v : Value} {l : List Bool} (h : OwnB w w' v l) : ∃ y : Wd, v = y.v ∧ y.l = l ∧ Bits w' y ∧ Ext w w' := by
  obtain ⟨y, h1, h2, h3⟩ := h.bits
  exact ⟨y, h1, h2, h3, h.1⟩
end Go.Proofs.Ytglajpmifhecgaa
