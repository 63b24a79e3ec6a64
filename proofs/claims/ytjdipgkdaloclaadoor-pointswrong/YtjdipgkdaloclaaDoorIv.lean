/-
  field.Inverse: the number that times another one is 1, or 0.
-/
import Derived.Test.YtjdipgkdaloclaaDoorPd
namespace Go.Proofs.YtjdipgkdaloclaaDoor
open Go.RowKit

theorem Inverse_zero (w : World) : Calls Tryd.prog 28 #[.int .i64 0] w fun e w' => e = .returned (.int .i64 0) ∧ w' = w := by
  have M : Hid (∀ (x : Nat) W, x < 16 → Calls Tryd.prog 27 #[.int .i64 0, .int .i64 x] W fun e w' => e = .returned (.int .i64 0) ∧ w' = W) := fun x W hx => by
    have := product_any 0 x (by omega) hx W
    rw [zero_gm hx] at this
    exact this
  go_enter Tryd.func28, Tryd.ntmps28
  go_wp2
  go_loopg [4] 16 (fun gg s wr => ∃ k : Nat, k ≤ 16 ∧ 16 - k ≤ gg ∧ s = .int .i64 k ∧ wr = w)
  case atStart => exact ⟨0, by omega, by omega, rfl, rfl⟩
  case round =>
    obtain ⟨k, hk, hgg, rfl, rfl⟩ := hrel
    by_cases hlt : k < 16
    · have hltz : (k : Int) < 16 := by omega
      have c2 := M.out k wr hlt
      go_wp2_with fail
      refine c2.mono ?_
      rintro e w' ⟨rfl, rfl⟩
      clear c2
      go_wp2
      go_roundg (16 - (k + 1))
      case measure => omega
      case rel => exact ⟨k + 1, by omega, by omega, by go_num, rfl⟩
    · obtain rfl : k = 16 := by omega
      go_wp2
      go_ret
      exact ⟨rfl, rfl⟩

theorem Inverse_good (a : Nat) (ha : a < 16) (h0 : a ≠ 0) (w : World) : Calls Tryd.prog 28 #[.int .i64 a] w fun e w' => e = .returned (.int .i64 (iv a : Nat)) ∧ w' = w := by
  have M : Hid (∀ (x : Nat) W, x < 16 → Calls Tryd.prog 27 #[.int .i64 a, .int .i64 x] W fun e w' => e = .returned (.int .i64 (gm a x : Nat)) ∧ w' = W) := fun x W hx => product_any a x ha hx W
  have F : Hid (∀ x, x < iv a → gm a x ≠ 1) := fun x hx => iv_first ha hx
  have O : Hid (gm a (iv a) = 1) := (iv_one ha h0).1
  have li := iv_lt ha
  generalize iv a = V at *
  go_enter Tryd.func28, Tryd.ntmps28
  go_wp2
  go_loopg [4] 16 (fun gg s wr => ∃ k : Nat, k ≤ V ∧ V - k ≤ gg ∧ s = .int .i64 k ∧ wr = w)
  case atStart => exact ⟨0, by omega, by omega, rfl, rfl⟩
  case round =>
    obtain ⟨k, hk, hgg, rfl, rfl⟩ := hrel
    have hltz : (k : Int) < 16 := by omega
    have c2 := M.out k wr (by omega)
    by_cases hlt : k < V
    · have hz := F.out k hlt
      have hz' : ((gm a k : Int) == 1) = false := beq_eq_false_iff_ne.2 (by omega)
      clear hz
      generalize gm a k = g at *
      go_wp2_with fail
      refine c2.mono ?_
      rintro e w' ⟨rfl, rfl⟩
      clear c2
      go_wp2
      go_roundg (V - (k + 1))
      case measure => omega
      case rel => exact ⟨k + 1, by omega, by omega, by go_num, rfl⟩
    · obtain rfl : k = V := by omega
      rw [O.out] at c2
      go_wp2_with fail
      refine c2.mono ?_
      rintro e w' ⟨rfl, rfl⟩
      clear c2
      go_wp2
      go_ret
      exact ⟨rfl, rfl⟩

/-- What Inverse answers. -/
def jv (a : Nat) : Nat := if a = 0 then 0 else iv a
theorem Inverse_any (a : Nat) (ha : a < 16) (w : World) : Calls Tryd.prog 28 #[.int .i64 a] w fun e w' => e = .returned (.int .i64 (jv a : Nat)) ∧ w' = w := by
  unfold jv
  by_cases h : a = 0
  · subst h
    exact Inverse_zero w
  · rw [if_neg h]
    exact Inverse_good a ha h w

end Go.Proofs.YtjdipgkdaloclaaDoor
