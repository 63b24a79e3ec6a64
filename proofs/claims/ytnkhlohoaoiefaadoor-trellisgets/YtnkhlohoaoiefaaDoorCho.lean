/-
  In plain mathematics: how many bits of a word are 1; whether an odd number of them is.
-/
import Derived.Test.YtnkhlohoaoiefaaDoorChecked
namespace Go.Proofs.YtnkhlohoaoiefaaDoor

/-- How many of the first m bits are 1. -/
def popN : Nat → Nat → Nat
  | 0, _ => 0
  | m + 1, w => popN m w + (if w.testBit m then 1 else 0)

/-- How many bits are 1. -/
def pop (w : Nat) : Nat := popN 32 w

theorem popN_le : ∀ m w, popN m w ≤ m
  | 0, _ => Nat.le_refl 0
  | m + 1, w => by
    have := popN_le m w
    unfold popN
    split <;> omega

/-- Is an odd number of the first n set? -/
def xs (f : Nat → Bool) : Nat → Bool
  | 0 => false
  | n + 1 => xs f n != f n

theorem xs_congr {f g : Nat → Bool} : ∀ n, (∀ i, i < n → f i = g i) → xs f n = xs g n
  | 0, _ => rfl
  | n + 1, h => by
    show (xs f n != f n) = (xs g n != g n)
    rw [xs_congr n (fun i hi => h i (by omega)), h n (by omega)]
theorem xs_false {f : Nat → Bool} : ∀ n, (∀ i, i < n → f i = false) → xs f n = false
  | 0, _ => rfl
  | n + 1, h => by
    show (xs f n != f n) = false
    rw [xs_false n (fun i hi => h i (by omega)), h n (by omega)]; rfl
theorem xs_xor (f g : Nat → Bool) : ∀ n, xs (fun i => f i != g i) n = (xs f n != xs g n)
  | 0 => rfl
  | n + 1 => by
    show (xs (fun i => f i != g i) n != (f n != g n)) = ((xs f n != f n) != (xs g n != g n))
    rw [xs_xor f g n]
    cases xs f n <;> cases xs g n <;> cases f n <;> cases g n <;> rfl
theorem xs_front (f : Nat → Bool) : ∀ n, xs f (n + 1) = (f 0 != xs (fun i => f (i + 1)) n)
  | 0 => by show (false != f 0) = (f 0 != false); cases f 0 <;> rfl
  | n + 1 => by
    show (xs f (n + 1) != f (n + 1)) = (f 0 != (xs (fun i => f (i + 1)) n != f (n + 1)))
    rw [xs_front f n]
    cases f 0 <;> cases xs (fun i => f (i + 1)) n <;> cases f (n + 1) <;> rfl
theorem popN_xs (w : Nat) : ∀ m, (popN m w % 2 == 1) = xs w.testBit m
  | 0 => rfl
  | m + 1 => by
    have ih := popN_xs w m
    show ((popN m w + _) % 2 == 1) = (xs w.testBit m != w.testBit m)
    rw [← ih]
    cases w.testBit m
    · simp
    · rcases Nat.mod_two_eq_zero_or_one (popN m w) with h | h
      · rw [h, if_pos rfl, show (popN m w + 1) % 2 = 1 by omega]; rfl
      · rw [h, if_pos rfl, show (popN m w + 1) % 2 = 0 by omega]; rfl

end Go.Proofs.YtnkhlohoaoiefaaDoor
