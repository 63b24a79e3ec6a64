/-
  quipuref.Bit, quipuref.Size.
-/
import Derived.Test.YtofdinddloejbaaChecked
import Derived.Test.YtofdinddloejbaaOwn
import Derived.Shelf.Abstract
import Derived.Laws.BitsAllLaws
namespace Go.Proofs.Ytofdinddloejbaa
open Go.RowKit

theorem pow_in (i : Nat) (hi : i < 32) : (2 : Int) ^ i % 4294967296 = ((2 ^ i : Nat) : Int) := by
  have h : 2 ^ i < 2 ^ 32 := Nat.pow_lt_pow_right (by omega) hi
  have e : (2 : Int) ^ i = ((2 ^ i : Nat) : Int) := by rw [Int.natCast_pow]; rfl
  rw [e]
  generalize 2 ^ i = M at *
  omega
theorem bit_and (x i : Nat) (hx : x < 4294967296) (hi : i < 32) : (bits BinOp.and IntKind.u32 (x : Int) (2 ^ i % 4294967296) != 0) = x.testBit i := by
  have h : 2 ^ i < 2 ^ 32 := Nat.pow_lt_pow_right (by omega) hi
  rw [pow_in i hi, u32_and_nat x (2 ^ i) hx h]
  cases hb : x.testBit i
  · have : x &&& 2 ^ i = 0 := by
      apply Nat.eq_of_testBit_eq
      intro j
      rw [Nat.testBit_and, Nat.testBit_two_pow, Nat.zero_testBit]
      by_cases e : i = j
      · rw [← e, hb]; rfl
      · simp [e]
    rw [this]; rfl
  · have : x &&& 2 ^ i ≠ 0 := by
      intro e
      have t : (x &&& 2 ^ i).testBit i = true := by rw [Nat.testBit_and, hb, Nat.testBit_two_pow_self]; rfl
      rw [e, Nat.zero_testBit] at t
      cases t
    rw [bne_iff_ne]
    omega

theorem bit_any (x i : Nat) (hx : x < 4294967296) (hi : i < 32) (w : World) : Calls Try.prog 13 #[.int .u32 x, .int .i64 i] w fun e w' => e = .returned (.bool (x.testBit i)) ∧ w' = w := by
  have e := bit_and x i hx hi
  go_enter Try.func13, Try.ntmps13
  go_wp2
  go_ret
  exact ⟨rfl, rfl⟩

end Go.Proofs.Ytofdinddloejbaa
