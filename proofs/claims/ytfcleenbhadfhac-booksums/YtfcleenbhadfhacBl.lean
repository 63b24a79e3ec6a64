/-
  ball.Ball, ball.Size.
-/
import Derived.Test.YtfcleenbhadfhacCw
namespace Go.Proofs.Ytfcleenbhadfhac
open Go.RowKit

theorem bsize_bad (n r : Int) (h : cb n r [] ≠ 0) (w : World) : Calls Try.prog 8 #[.int .i64 n, .int .i64 r] w fun e w' => e = .returned (.tuple #[.int .i64 0, .int .i64 (cb n r [])]) ∧ w' = w := by
  have c1 := checkBall_of n r [] _ _ _ _ (checkNone_any n w)
  have hz : (cb n r [] != 0) = true := by rw [bne_iff_ne]; exact h
  clear h
  generalize cb n r [] = X at *
  go_enter Try.func8, Try.ntmps8
  go_wp2_with fail
  refine c1.mono ?_
  rintro e w' ⟨rfl, rfl⟩
  clear c1
  go_wp2
  go_ret2
  exact ⟨rfl, rfl⟩

theorem bsize_good (n r : Nat) (hn : n ≤ 12) (hr : r ≤ n) (w : World) : Calls Try.prog 8 #[.int .i64 n, .int .i64 r] w fun e w' => e = .returned (.tuple #[.int .i64 (sz n (r + 1) : Nat), .int .i64 0]) ∧ w' = w := by
  have c1 := checkBall_of n r [] _ _ _ _ (checkNone_any n w)
  have hc : cb n r [] = 0 := by
    unfold cb
    rw [if_pos (ce_good hn (fun x hx => by cases hx)), if_pos ⟨by omega, by omega⟩]
  rw [hc] at c1
  have hM : 2 ^ n ≤ 2 ^ 12 := Nat.pow_le_pow_right (by omega) hn
  have MN : Hid (∀ (k : Nat) W, k ≤ n → Calls Try.prog 19 #[.int .i64 n, .int .i64 k] W fun e w' => e = .returned (.tuple #[.int .i64 (ch n k : Nat), .int .i64 0]) ∧ w' = W) := fun k W hk => many_good n k hn hk W
  have FW : Hid (∀ k, sz n k ≤ 4096) := fun k => by have := sz_few (n := n) (r := k) (by omega); omega
  clear hc hM
  go_enter Try.func8, Try.ntmps8
  go_wp2_with fail
  refine c1.mono ?_
  rintro e w1 ⟨rfl, rfl⟩
  clear c1
  go_wp2
  go_loopg [7, 8, 9, 10, 19] (r + 1) (fun gg s7 _ _ _ s19 wr => ∃ k : Nat, k ≤ r + 1 ∧ r + 1 - k ≤ gg ∧ s7 = .int .i64 (sz n k : Nat) ∧ s19 = .int .i64 k ∧ wr = w1)
  case atStart => exact ⟨0, Nat.zero_le _, by omega, rfl, rfl, rfl⟩
  case round =>
    obtain ⟨k, hk, hg, rfl, rfl, rfl⟩ := hrel
    by_cases hlt : k < r + 1
    · have hltz : (k : Int) < (r : Int) + 1 := by omega
      have c1 := MN.out k wr (by omega)
      have f1 := FW.out k
      have f2 := FW.out (k + 1)
      have nx : Hid (sz n (k + 1) = sz n k + ch n k) := rfl
      have nx' : sz n (k + 1) = sz n k + ch n k := rfl
      rw [nx'] at f2
      clear nx'
      generalize sz n k = A at *
      generalize ch n k = B at *
      go_wp2_with fail
      refine c1.mono ?_
      rintro e w2 ⟨rfl, rfl⟩
      clear c1
      go_wp2
      go_roundg (r + 1 - (k + 1))
      case measure => omega
      case rel => exact ⟨k + 1, by omega, by omega, by rw [nx.out]; go_num, by go_num, rfl⟩
    · have hk' : k = r + 1 := by omega
      subst hk'
      go_wp2
      go_ret2
      exact ⟨rfl, rfl⟩

end Go.Proofs.Ytfcleenbhadfhac
