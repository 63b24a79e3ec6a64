/-
  ball.Ball, ball.Size.
-/
import Derived.Test.YtfcleenbhadfhaaCw
namespace Go.Proofs.Ytfcleenbhadfhaa
open Go.RowKit

theorem ball_bad (n r : Int) (a : Nat) (ha : a < 4294967296) (h : cb n r [a] ≠ 0) (w : World) : Calls Try.prog 12 #[.int .i64 n, .int .u32 a, .int .i64 r] w fun e w' => e = .returned (.tuple #[.slice none 0 0, .int .i64 (cb n r [a])]) ∧ Ext w w' := by
  have R : Row (w.alloc (.cells #[.int .u32 a] 22)) w.heap.size 22 (uv [a]) := heap_alloc_new _ _
  have c0 := checkWords_any n [a] (by simp) (fun x hx => by simp at hx; omega) _ 1 _ R
  have c1 := checkBall_of n r [a] _ _ _ _ c0
  rw [show [a].length = 1 from rfl] at c1
  have hz : (cb n r [a] != 0) = true := by rw [bne_iff_ne]; exact h
  have E : Hid (Ext w (w.alloc (.cells #[.int .u32 a] 22))) := (Ext.refl w).alloc _
  clear h R c0
  generalize cb n r [a] = X at *
  go_enter Try.func12, Try.ntmps12
  go_wp2_with fail
  refine c1.mono ?_
  rintro e w' ⟨rfl, rfl⟩
  clear c1
  go_wp2
  go_ret2
  exact ⟨rfl, E.out⟩

theorem ball_good (n a r : Nat) (hn : n ≤ 12) (ha : a < 2 ^ n) (hr : r ≤ n) (w : World) : Calls Try.prog 12 #[.int .i64 n, .int .u32 a, .int .i64 r] w fun e w' => ∃ v, e = .returned (.tuple #[v, .int .i64 0]) ∧ OwnU w w' v (near a r (2 ^ n)) := by
  have hM : 2 ^ n ≤ 2 ^ 12 := Nat.pow_le_pow_right (by omega) hn
  have pw : (2 : Int) ^ n % 4294967296 = ((2 ^ n : Nat) : Int) := pow_in n (by omega)
  have R : Row (w.alloc (.cells #[.int .u32 a] 22)) w.heap.size 22 (uv [a]) := heap_alloc_new _ _
  have c0 := checkWords_any n [a] (by simp) (fun x hx => by simp at hx; omega) _ 1 _ R
  have c1 := checkBall_of n r [a] _ _ _ _ c0
  have hc : cb n r [a] = 0 := by
    unfold cb
    rw [if_pos (ce_good hn (fun x hx => by simp at hx; rw [hx]; exact ha)), if_pos ⟨by omega, by omega⟩]
  rw [show [a].length = 1 from rfl, hc] at c1
  have AP : Hid (∀ (x : Nat) W, x < 4096 → Calls Try.prog 21 #[.int .u32 a, .int .u32 x] W fun e w' => e = .returned (.int .i64 (far a x : Nat)) ∧ Ext W w') := fun x W hx => apart_any a x (by omega) hx W
  have E : Hid (Ext w (w.alloc (.cells #[.int .u32 a] 22))) := (Ext.refl w).alloc _
  clear R c0 hc ha
  generalize 2 ^ n = M at *
  go_enter Try.func12, Try.ntmps12
  go_wp2_with fail
  refine c1.mono ?_
  rintro e w1 ⟨rfl, rfl⟩
  clear c1
  generalize w.alloc (.cells #[.int .u32 a] 22) = W1 at *
  go_wp2
  rw [pw]
  go_loopg [9, 10, 21] M (fun gg s9 _ s21 wr => ∃ x : Nat, x ≤ M ∧ M - x ≤ gg ∧ s21 = .int .u32 x ∧ Aside (OwnU w wr s9 (near a r x)))
  case atStart => exact ⟨0, Nat.zero_le _, by omega, rfl, OwnU.nil E.out⟩
  case round =>
    obtain ⟨x, hx, hg, rfl, A⟩ := hrel
    by_cases hlt : x < M
    · have hltz : (x : Int) < (M : Int) := by omega
      have c1 := AP.out x wr (by omega)
      have few := far_le32 a x
      have NO : Hid (OwnU w wr u9 (near a r x)) := A.out
      have NY : Hid (far a x ≤ r → near a r (x + 1) = near a r x ++ [x]) := fun h => near_yes h
      have NN : Hid (¬ far a x ≤ r → near a r (x + 1) = near a r x) := fun h => near_no h
      have hfl : Hid (((near a r x).length + 1) * 4 ≤ 140737488355328) := by show _ ≤ _; have := near_few a r x; omega
      clear A
      generalize far a x = F at *
      go_wp2_with fail
      refine c1.mono ?_
      rintro e w2 ⟨rfl, h2⟩
      have NO2 : Hid (OwnU w w2 u9 (near a r x)) := NO.out.ext h2
      clear c1 h2 NO
      by_cases hf : F ≤ r
      · have NF : Hid (near a r (x + 1) = near a r x ++ [x]) := NY.out hf
        have hfz : (F : Int) ≤ (r : Int) := by omega
        clear NY NN
        go_wp2_with (at_builtin; refine wpList_appendU rfl _ _ rfl w _ u9 (by rfl) _ NO2.out x (by rfl) hfl.out ?_; intro v' w3 O2; have O2' : Hid (OwnU w w3 v' (near a r (x + 1))) := by (rw [NF.out]; exact O2))
        go_roundg (M - (x + 1))
        case measure => omega
        case rel => exact ⟨x + 1, by omega, by omega, by go_num, O2'.out⟩
      · have NF : Hid (near a r (x + 1) = near a r x) := NN.out hf
        have hfz : ¬ (F : Int) ≤ (r : Int) := by omega
        clear NY NN
        go_wp2
        go_roundg (M - (x + 1))
        case measure => omega
        case rel => exact ⟨x + 1, by omega, by omega, by go_num, by rw [NF.out]; exact NO2.out⟩
    · have hk' : x = M := by omega
      subst hk'
      have F : Hid (OwnU w wr u9 (near a r x)) := A.out
      clear A
      go_wp2
      go_ret2
      exact ⟨_, rfl, F.out⟩

theorem bsize_bad (n r : Int) (h : cb n r [] ≠ 0) (w : World) : Calls Try.prog 14 #[.int .i64 n, .int .i64 r] w fun e w' => e = .returned (.tuple #[.int .i64 0, .int .i64 (cb n r [])]) ∧ w' = w := by
  have c1 := checkBall_of n r [] _ _ _ _ (checkNone_any n w)
  have hz : (cb n r [] != 0) = true := by rw [bne_iff_ne]; exact h
  clear h
  generalize cb n r [] = X at *
  go_enter Try.func14, Try.ntmps14
  go_wp2_with fail
  refine c1.mono ?_
  rintro e w' ⟨rfl, rfl⟩
  clear c1
  go_wp2
  go_ret2
  exact ⟨rfl, rfl⟩

theorem bsize_good (n r : Nat) (hn : n ≤ 12) (hr : r ≤ n) (w : World) : Calls Try.prog 14 #[.int .i64 n, .int .i64 r] w fun e w' => e = .returned (.tuple #[.int .i64 (sz n (r + 1) : Nat), .int .i64 0]) ∧ w' = w := by
  have c1 := checkBall_of n r [] _ _ _ _ (checkNone_any n w)
  have hc : cb n r [] = 0 := by
    unfold cb
    rw [if_pos (ce_good hn (fun x hx => by cases hx)), if_pos ⟨by omega, by omega⟩]
  rw [hc] at c1
  have hM : 2 ^ n ≤ 2 ^ 12 := Nat.pow_le_pow_right (by omega) hn
  have MN : Hid (∀ (k : Nat) W, k ≤ n → Calls Try.prog 24 #[.int .i64 n, .int .i64 k] W fun e w' => e = .returned (.tuple #[.int .i64 (ch n k : Nat), .int .i64 0]) ∧ w' = W) := fun k W hk => many_good n k hn hk W
  have FW : Hid (∀ k, sz n k ≤ 4096) := fun k => by have := sz_few (n := n) (r := k) (by omega); omega
  clear hc hM
  go_enter Try.func14, Try.ntmps14
  go_wp2_with fail
  refine c1.mono ?_
  rintro e w1 ⟨rfl, rfl⟩
  clear c1
  go_wp2
  go_loopg [7, 8, 9, 10, 19] (r + 1) (fun gg s7 _ _ _ s19 wr => ∃ k : Nat, k ≤ r + 1 ∧ r + 1 - k ≤ gg ∧ s7 = .int .i64 (sz n k : Nat) ∧ s19 = .int .i64 k ∧ wr = w1)
  case atStart => exact ⟨0, Nat.zero_le _, by omega, rfl, rfl, rfl⟩
  case round =>
    obtain ⟨k, hk, hg, rfl, rfl, rfl⟩ := hrel
    by_cases hlt : k < r + 1
    · have hltz : (k : Int) < (r : Int) + 1 := by omega
      have c1 := MN.out k wr (by omega)
      have f1 := FW.out k
      have f2 := FW.out (k + 1)
      have nx : Hid (sz n (k + 1) = sz n k + ch n k) := rfl
      have nx' : sz n (k + 1) = sz n k + ch n k := rfl
      rw [nx'] at f2
      clear nx'
      generalize sz n k = A at *
      generalize ch n k = B at *
      go_wp2_with fail
      refine c1.mono ?_
      rintro e w2 ⟨rfl, rfl⟩
      clear c1
      go_wp2
      go_roundg (r + 1 - (k + 1))
      case measure => omega
      case rel => exact ⟨k + 1, by omega, by omega, by rw [nx.out]; go_num, by go_num, rfl⟩
    · have hk' : k = r + 1 := by omega
      subst hk'
      go_wp2
      go_ret2
      exact ⟨rfl, rfl⟩

end Go.Proofs.Ytfcleenbhadfhaa
