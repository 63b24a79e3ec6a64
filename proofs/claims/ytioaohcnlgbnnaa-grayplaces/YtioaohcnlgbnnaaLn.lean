/-
  bits.Len32: how many digits a word has.
-/
import Derived.Test.YtioaohcnlgbnnaaChecked
import Derived.Test.YtioaohcnlgbnnaaCho
import Derived.Lib.Strings
import Derived.Lib.Slices
import Derived.Lib.Small
import Derived.Lib.Walk
import Derived.Lib.BitFns
namespace Go.Proofs.Ytioaohcnlgbnnaa

theorem say_int {a b : Int} (h : a = b) : Ending.returned (.int .i64 a) = .returned (.int .i64 b) := by rw [h]

set_option maxHeartbeats 4000000 in
set_option maxRecDepth 100000 in
theorem len32_int (x : Int) (w : World) (h0 : 0 ≤ x) (h1 : x ≤ 4294967295) : Calls Try.prog 19 #[.int .u32 x] w fun e w' => e = .returned (.int .i64 (Lib.bitLen x.toNat : Nat)) ∧ w' = w := by
  go_enter Try.func19, Try.ntmps19
  go_wp2
  all_goals (go_ret; refine ⟨say_int ?_, rfl⟩)
  all_goals first
    | (rw [Lib.len8_of (x / 65536 / 256 % 256) (by omega) (by omega)]
       have e : (x / 65536 / 256 % 256).toNat = x.toNat / 16777216 := by omega
       have l := Lib.bitLen_le8' (x / 65536 / 256 % 256) (by omega) (by omega)
       have s := Lib.bitLen_shift24 x.toNat (by omega) (by omega)
       rw [e] at l ⊢
       omega)
    | (rw [Lib.len8_of (x / 65536 % 256) (by omega) (by omega)]
       have e : (x / 65536 % 256).toNat = x.toNat / 65536 := by omega
       have l := Lib.bitLen_le8' (x / 65536 % 256) (by omega) (by omega)
       have s := Lib.bitLen_shift16 x.toNat (by omega) (by omega)
       rw [e] at l ⊢
       omega)
    | (rw [Lib.len8_of (x / 256 % 256) (by omega) (by omega)]
       have e : (x / 256 % 256).toNat = x.toNat / 256 := by omega
       have l := Lib.bitLen_le8' (x / 256 % 256) (by omega) (by omega)
       have s := Lib.bitLen_shift8 x.toNat (by omega) (by omega)
       rw [e] at l ⊢
       omega)
    | (rw [Lib.len8_of (x % 256) (by omega) (by omega)]
       have e : (x % 256).toNat = x.toNat := by omega
       have l := Lib.bitLen_le8' (x % 256) (by omega) (by omega)
       rw [e] at l ⊢
       omega)

theorem len32_any (x : Nat) (hx : x < 4294967296) (w : World) : Calls Try.prog 19 #[.int .u32 x] w fun e w' => e = .returned (.int .i64 (Lib.bitLen x : Nat)) ∧ w' = w := by
  have h := len32_int (x : Int) w (by omega) (by omega)
  rw [Int.toNat_natCast] at h
  exact h

theorem bitLen_above {x n : Nat} (hn : n ≤ 32) (hx : x < 4294967296) : n < Lib.bitLen x ↔ 2 ^ n ≤ x := by
  constructor
  · intro h
    rcases Nat.lt_or_ge x (2 ^ n) with l | l
    · have := Lib.bitLen_le x n (by omega) l; omega
    · exact l
  · intro h
    have hp : 0 < 2 ^ n := Nat.pow_pos (by omega)
    have s := Lib.bitLen_shift n x h (by omega)
    have hd : 0 < x / 2 ^ n := Nat.div_pos h hp
    have hd2 : x / 2 ^ n ≤ x := Nat.div_le_self _ _
    have := Lib.bitLen_half (x / 2 ^ n) (by omega) (by omega)
    omega

end Go.Proofs.Ytioaohcnlgbnnaa
