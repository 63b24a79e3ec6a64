/-
  In plain mathematics: the bits that hang on those ahead.
-/
import Derived.Test.YtnkhlohoaoiefaaDoorRw
namespace Go.Proofs.YtnkhlohoaoiefaaDoor

/-- The bit that is k ahead of place i; ahead of the first one stands 0. -/
def ga (l : List Bool) (i k : Nat) : Bool := if k ≤ i then l.getD (i - k) false else false
def p1 (l : List Bool) (i : Nat) : Bool := (ga l i 0 != ga l i 1) != ga l i 2
def p2 (l : List Bool) (i : Nat) : Bool := ga l i 0 != ga l i 2
/-- The first k pairs. -/
def tk (l : List Bool) : Nat → List Bool
  | 0 => []
  | k + 1 => tk l k ++ [p1 l k, p2 l k]
/-- What is put. -/
def tr (l : List Bool) : List Bool := tk l (l.length + 2)
theorem tk_len (l : List Bool) : ∀ k, (tk l k).length = 2 * k
  | 0 => rfl
  | k + 1 => by
    show (tk l k ++ [p1 l k, p2 l k]).length = _
    rw [List.length_append, tk_len l k]
    show 2 * k + 2 = _
    omega
theorem tr_len (l : List Bool) : (tr l).length = 2 * l.length + 4 := by
  unfold tr
  rw [tk_len]
  omega
theorem ga_next (l : List Bool) (i k : Nat) : ga l (i + 1) (k + 1) = ga l i k := by
  unfold ga
  by_cases h : k ≤ i
  · rw [if_pos h, if_pos (by omega), show i + 1 - (k + 1) = i - k by omega]
  · rw [if_neg h, if_neg (by omega)]
theorem ga_first (l : List Bool) (k : Nat) : ga l 0 (k + 1) = false := rfl
theorem ga_zero (l : List Bool) (i : Nat) : ga l i 0 = l.getD i false := by
  unfold ga
  rw [if_pos (Nat.zero_le _), Nat.sub_zero]

end Go.Proofs.YtnkhlohoaoiefaaDoor
