/-
  bits.OnesCount32, of words below 4096.
-/
import Derived.Test.YtabjliijojidmaaLn
import Derived.Test.YtabjliijojidmaaTwo
import Derived.Laws.BitsAllLaws
import Derived.BigQuiet
namespace Go.Proofs.Ytabjliijojidmaa

set_option maxHeartbeats 4000000 in
set_option maxRecDepth 100000 in
theorem ones_any (x : Nat) (hx : x < 4096) (w : World) : Calls Try.prog 30 #[.int .u32 x] w fun e w' => e = .returned (.int .i64 (pop x : Nat)) ∧ ∃ d, w' = w.drewN d := by
  have a1 : (x : Int) / 16777216 = 0 := by omega
  have a2 : (x : Int) / 65536 = 0 := by omega
  have a3 : bits BinOp.and IntKind.u32 ((x : Int) / 256) 255 = ((x / 256 : Nat) : Int) := by
    have h := u32_and_nat (x / 256) 255 (by omega) (by omega)
    rw [show ((x / 256 : Nat) : Int) = (x : Int) / 256 by omega] at *
    rw [show ((255 : Nat) : Int) = 255 from rfl] at h
    rw [h, show (255 : Nat) = 2 ^ 8 - 1 from rfl, Nat.and_two_pow_sub_one_eq_mod]
    omega
  have a4 : bits BinOp.and IntKind.u32 (x : Int) 255 = ((x % 256 : Nat) : Int) := by
    have h := u32_and_nat x 255 (by omega) (by omega)
    rw [show ((255 : Nat) : Int) = 255 from rfl] at h
    rw [h, show (255 : Nat) = 2 ^ 8 - 1 from rfl, Nat.and_two_pow_sub_one_eq_mod]
  have a5 : bits BinOp.and IntKind.u32 0 255 = 0 := by decide
  have b1 : (0 : Int) ≤ ((x / 256 : Nat) : Int) := by omega
  have b2 : ((x / 256 : Nat) : Int) ≤ 255 := by omega
  have b3 : (0 : Int) ≤ ((x % 256 : Nat) : Int) := by omega
  have b4 : ((x % 256 : Nat) : Int) ≤ 255 := by omega
  have e0 : Lib.pop8 0 = 0 := by decide +kernel
  have e1 := pop_bytes hx
  obtain ⟨p, hp, eH⟩ : ∃ p : Nat, p ≤ 8 ∧ Lib.pop8 ((x / 256 : Nat) : Int) = p := ⟨_, Lib.onesCount_le8 ⟨x / 256, by omega⟩, Lib.pop8_eq ⟨x / 256, by omega⟩⟩
  obtain ⟨q, hq, eL⟩ : ∃ q : Nat, q ≤ 8 ∧ Lib.pop8 ((x % 256 : Nat) : Int) = q := ⟨_, Lib.onesCount_le8 ⟨x % 256, by omega⟩, Lib.pop8_eq ⟨x % 256, by omega⟩⟩
  rw [eH, eL] at e1
  rw [← e1]
  clear e1
  generalize x / 256 = H at *
  generalize x % 256 = L at *
  go_enter Try.func30, Try.ntmps30
  go_wp2
  go_quiet (fail)
  go_wp2
  go_ret
  exact ⟨rfl, _, rfl⟩
end Go.Proofs.Ytabjliijojidmaa
