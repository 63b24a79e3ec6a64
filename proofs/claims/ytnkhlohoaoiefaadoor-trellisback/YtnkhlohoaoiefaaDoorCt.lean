/-
  In plain mathematics: how many are set; at how many places two lists are not the same; the digits of a number.
-/
import Derived.Test.YtnkhlohoaoiefaaDoorRw
namespace Go.Proofs.YtnkhlohoaoiefaaDoor

/-- How many of the first n are set. -/
def ct (f : Nat → Bool) : Nat → Nat
  | 0 => 0
  | n + 1 => ct f n + (if f n then 1 else 0)
theorem ct_congr {f g : Nat → Bool} : ∀ n, (∀ i, i < n → f i = g i) → ct f n = ct g n
  | 0, _ => rfl
  | n + 1, h => by
    show ct f n + _ = ct g n + _
    rw [ct_congr n (fun i hi => h i (by omega)), h n (by omega)]
theorem ct_le (f : Nat → Bool) : ∀ n, ct f n ≤ n
  | 0 => Nat.le_refl _
  | n + 1 => by
    have := ct_le f n
    show ct f n + _ ≤ _
    split <;> omega
theorem ct_tri (f g h : Nat → Bool) : ∀ n, ct (fun i => f i != h i) n ≤ ct (fun i => f i != g i) n + ct (fun i => g i != h i) n
  | 0 => Nat.le_refl _
  | n + 1 => by
    have := ct_tri f g h n
    show ct _ n + (if (f n != h n) = true then 1 else 0) ≤ (ct _ n + (if (f n != g n) = true then 1 else 0)) + (ct _ n + (if (g n != h n) = true then 1 else 0))
    cases f n <;> cases g n <;> cases h n <;> simp <;> omega

/-- At how many places two lists of bits are not the same. -/
def df (x y : List Bool) : Nat := ct (fun i => x.getD i false != y.getD i false) x.length
theorem df_self (x : List Bool) : df x x = 0 := by
  unfold df
  have : ∀ n, ct (fun i => x.getD i false != x.getD i false) n = 0 := fun n => by
    induction n with
    | zero => rfl
    | succ n ih =>
      show ct _ n + (if (x.getD n false != x.getD n false) = true then 1 else 0) = 0
      rw [ih]
      cases x.getD n false <;> rfl
  exact this _
theorem df_comm {x y : List Bool} (h : x.length = y.length) : df x y = df y x := by
  unfold df
  rw [h]
  exact ct_congr _ (fun i _ => by cases x.getD i false <;> cases y.getD i false <;> rfl)
theorem df_tri {x y z : List Bool} (h : x.length = y.length) : df x z ≤ df x y + df y z := by
  unfold df
  rw [← h]
  exact ct_tri _ _ _ _
theorem df_le (x y : List Bool) : df x y ≤ x.length := ct_le _ _
theorem same_of {x y : List Bool} (hl : x.length = y.length) (h : ∀ i, i < x.length → x.getD i false = y.getD i false) : x = y := by
  apply List.ext_getElem hl
  intro i h1 h2
  have := h i h1
  simpa [List.getD_eq_getElem?_getD, h1, h2] using this

/-- The digits of a number, s of them, the highest first. -/
def dg (t s : Nat) : List Bool := (List.range s).map (fun i => t.testBit (s - 1 - i))
theorem dg_length (t s : Nat) : (dg t s).length = s := by simp [dg]
theorem dg_at (t s i : Nat) (h : i < s) : (dg t s).getD i false = t.testBit (s - 1 - i) := by
  unfold dg
  simp [List.getD_eq_getElem?_getD, h]

end Go.Proofs.YtnkhlohoaoiefaaDoor
