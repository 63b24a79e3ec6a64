/-
  bits.Len64, bits.Len: how many digits a number has.
-/
import Derived.Test.YtdfjjjcaibadoabDoorChecked
import Derived.Test.YtdfjjjcaibadoabDoorEl
import Derived.Lib.Strings
import Derived.Lib.Slices
import Derived.Lib.Small
import Derived.Lib.Walk
namespace Go.Proofs.YtdfjjjcaibadoabDoor

theorem say_int {a b : Int} (h : a = b) : Ending.returned (.int .i64 a) = .returned (.int .i64 b) := by rw [h]

set_option maxHeartbeats 4000000 in
set_option maxRecDepth 100000 in
theorem len64_int (x : Int) (w : World) (h0 : 0 ≤ x) (h1 : x ≤ 1048576) : Calls Tryd.prog 43 #[.int .u64 x] w fun e w' => e = .returned (.int .i64 (nd x.toNat : Nat)) ∧ w' = w := by
  have big : x ≥ 65536 → Lib.len8 (x / 65536 % 256) + 16 = (nd x.toNat : Int) := fun h => by
    rw [show x / 65536 % 256 = ((x.toNat / 2 ^ 16 : Nat) : Int) by omega, tab_nd _ (by omega), nd_shift 16 x.toNat (by omega)]
    omega
  have mid : x ≥ 256 → x < 65536 → Lib.len8 (x / 256 % 256) + 8 = (nd x.toNat : Int) := fun h h' => by
    rw [show x / 256 % 256 = ((x.toNat / 2 ^ 8 : Nat) : Int) by omega, tab_nd _ (by omega), nd_shift 8 x.toNat (by omega)]
    omega
  have low : x < 256 → Lib.len8 (x % 256) = (nd x.toNat : Int) := fun h => by
    rw [show x % 256 = ((x.toNat : Nat) : Int) by omega, tab_nd _ (by omega)]
  have few : nd x.toNat ≤ 21 := nd_21 (by omega)
  go_enter Tryd.func43, Tryd.ntmps43
  go_wp2
  all_goals
    go_ret
    refine ⟨say_int ?_, rfl⟩
  · have := big (by omega)
    omega
  · have := mid (by omega) (by omega)
    omega
  · omega

theorem len64_any (n : Nat) (hn : n ≤ 1048576) (w : World) : Calls Tryd.prog 43 #[.int .u64 (n : Int)] w fun e w' => e = .returned (.int .i64 (nd n : Nat)) ∧ w' = w := by
  have h := len64_int (n : Int) w (by omega) (by omega)
  rw [Int.toNat_natCast] at h
  exact h

theorem len_any (n : Nat) (hn : n ≤ 1048576) (w : World) : Calls Tryd.prog 33 #[.int .u64 (n : Int)] w fun e w' => e = .returned (.int .i64 (nd n : Nat)) ∧ w' = w := by
  have h := len64_any n hn w
  go_enter Tryd.func33, Tryd.ntmps33
  go_wp2_with fail
  refine h.mono ?_
  rintro e w' ⟨rfl, rfl⟩
  go_wp2
  go_ret
  exact ⟨rfl, rfl⟩

end Go.Proofs.YtdfjjjcaibadoabDoor
