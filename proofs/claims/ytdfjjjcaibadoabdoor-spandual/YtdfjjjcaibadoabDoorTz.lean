/-
  bits.TrailingZeros of a power of two: by the table that the program lays.
-/
import Derived.Test.YtdfjjjcaibadoabDoorSs
import Derived.Test.YtdfjjjcaibadoabDoorFa
import Derived.Laws.BitsAllLaws
namespace Go.Proofs.YtdfjjjcaibadoabDoor
open Go.RowKit
set_option linter.unusedVariables false

/-- The place of the table at which the number of a power of two lies. -/
def tix (k : Nat) : Nat := 2 ^ k * 285870213051353865 % 18446744073709551616 / 288230376151711744

/-- The table lies there. -/
def TB (w : World) : Prop := ∀ k : Nat, k ≤ 12 → w.cell? ⟨1, tix k, none⟩ = some (.int .u8 k)
theorem TB.ext {w w' : World} (h : TB w) (e : Ext w w') : TB w' := fun k hk => e.cell (h k hk)

theorem tix_and : ∀ k : Fin 13, (2 ^ k.val &&& (18446744073709551616 - 2 ^ k.val)) = 2 ^ k.val ∧ tix k.val < 64 := by decide +kernel

theorem tix_of (k : Nat) (hk : k ≤ 12) : IntKind.u64.wrap (bits BinOp.and IntKind.u64 ((2 ^ k : Nat) : Int) (IntKind.u64.wrap (-((2 ^ k : Nat) : Int))) * 285870213051353865) / 288230376151711744 = (tix k : Int) ∧ tix k < 64 := by
  obtain ⟨h1, h2⟩ := tix_and ⟨k, by omega⟩
  have p1 : 2 ^ k ≤ 2 ^ 12 := Nat.pow_le_pow_right (by omega) hk
  have p2 : 0 < 2 ^ k := Nat.two_pow_pos k
  simp only at h1 h2
  refine ⟨?_, h2⟩
  unfold tix
  generalize 2 ^ k = X at *
  have e1 : IntKind.u64.wrap (-(X : Int)) = ((18446744073709551616 - X : Nat) : Int) := by rw [IntKind.wrap_u64]; omega
  rw [e1, u64_and_nat _ _ (by omega) (by omega), h1, IntKind.wrap_u64]
  omega

set_option maxHeartbeats 1000000 in
theorem tz64_core (x k idx : Nat) (w : World) (hx0 : ((x : Int) == 0) = false)
    (key : IntKind.u64.wrap (bits BinOp.and IntKind.u64 (x : Int) (IntKind.u64.wrap (-(x : Int))) * 285870213051353865) / 288230376151711744 = (idx : Int))
    (hi : idx < 64) (hk : k < 64) (hcell : w.cell? ⟨1, idx, none⟩ = some (.int .u8 k)) :
    Calls Tryd.prog 29 #[.int .u64 x] w fun e w' => e = .returned (.int .i64 k) ∧ w' = w := by
  go_enter Tryd.func29, Tryd.ntmps29
  go_wp2_with (simp only [key])
  go_ret
  exact ⟨rfl, rfl⟩

theorem tz64_any (k : Nat) (hk : k ≤ 12) (w : World) (h : TB w) :
    Calls Tryd.prog 29 #[.int .u64 (2 ^ k : Nat)] w fun e w' => e = .returned (.int .i64 k) ∧ w' = w := by
  obtain ⟨hq, hx⟩ := tix_of k hk
  have p2 : 0 < 2 ^ k := Nat.two_pow_pos k
  exact tz64_core (2 ^ k) k (tix k) w (by rw [beq_eq_false_iff_ne]; omega) hq hx (by omega) (h k hk)

theorem tz_any (k : Nat) (hk : k ≤ 12) (w : World) (h : TB w) :
    Calls Tryd.prog 16 #[.int .u64 (2 ^ k : Nat)] w fun e w' => e = .returned (.int .i64 k) ∧ w' = w := by
  have c1 := tz64_any k hk w h
  have p1 : 2 ^ k ≤ 2 ^ 12 := Nat.pow_le_pow_right (by omega) hk
  clear h
  generalize 2 ^ k = X at *
  go_enter Tryd.func16, Tryd.ntmps16
  go_wp2_with fail
  refine c1.mono ?_
  rintro e w9 ⟨rfl, rfl⟩
  clear c1
  go_wp2
  go_ret
  exact ⟨rfl, rfl⟩

end Go.Proofs.YtdfjjjcaibadoabDoor
