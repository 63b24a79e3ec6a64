/-
  What prefix.Check and quipuref.CodeCheck answer: ErrLarge just of a code of more than eight words, or with a word of more than eight bits.
-/
import Derived.Test.YtakggfogoobdnaaFun
namespace Go.Proofs.Ytakggfogoobdnaa
open Go.RowKit

def large (g : List Wd) : Bool := decide (8 < g.length) || g.any (fun x => decide (8 < x.l.length))
def erl (g : List Wd) : Int := if large g then 1 else 0

theorem erl_long {g : List Wd} (h : 8 < g.length) : erl g = 1 := by simp [erl, large, h]
theorem erl_word {g : List Wd} {x : Wd} (hx : x ∈ g) (h : 8 < x.l.length) : erl g = 1 := by
  have : g.any (fun x => decide (8 < x.l.length)) = true := List.any_eq_true.2 ⟨x, hx, by simpa using h⟩
  simp [erl, large, this]
theorem erl_ok {g : List Wd} (h : g.length ≤ 8) (h' : ∀ x ∈ g, x.l.length ≤ 8) : erl g = 0 := by
  have h1 : g.any (fun x => decide (8 < x.l.length)) = false := List.any_eq_false.2 (fun x hx => by have := h' x hx; simp; omega)
  have h2 : decide (8 < g.length) = false := by simp; omega
  simp [erl, large, h1, h2]
theorem erl_any {g : List Wd} (h : g.length ≤ 8) : erl g = if g.any (fun x => decide (8 < x.l.length)) then 1 else 0 := by
  have h2 : decide (8 < g.length) = false := by simp; omega
  simp [erl, large, h2]


end Go.Proofs.Ytakggfogoobdnaa
