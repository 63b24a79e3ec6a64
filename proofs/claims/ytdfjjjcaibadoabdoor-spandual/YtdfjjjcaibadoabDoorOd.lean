/-
  quipuref.Odd; quipuref.In; quipukeep.below of one word.
-/
import Derived.Test.YtdfjjjcaibadoabDoorSu
import Derived.Test.YtdfjjjcaibadoabDoorSm
import Derived.Test.YtdfjjjcaibadoabDoorBt
import Derived.Laws.BitsAllLaws
namespace Go.Proofs.YtdfjjjcaibadoabDoor
open Go.RowKit
set_option linter.unusedVariables false

theorem refOdd_any (x y : Nat) (hx : x < 4294967296) (hy : y < 4294967296) (w : World) :
    Calls Tryd.prog 9 #[.int .u32 (x : Nat), .int .u32 (y : Nat)] w fun e w' => e = .returned (.bool (odd x y)) ∧ w' = w := by
  have hm : x &&& y < 2 ^ 32 := Nat.and_lt_two_pow _ (by omega)
  have c2 := size_any (x &&& y) (by omega) w
  have e2 := u32_and_nat x y hx hy
  have l1 : pop (x &&& y) ≤ 32 := popN_le 32 (x &&& y)
  unfold odd
  generalize pop (x &&& y) = P at *
  generalize x &&& y = X at *
  obtain ⟨q, hq⟩ : ∃ q, P % 2 = q := ⟨_, rfl⟩
  have qz : (P : Int).tmod 2 = (q : Int) := by
    rw [show (2 : Int) = ((2 : Nat) : Int) from rfl, ← Int.ofNat_tmod, hq]
  have hq2 : q < 2 := by omega
  rw [hq]
  clear hq
  go_enter Tryd.func9, Tryd.ntmps9
  go_wp2_with fail
  refine c2.mono ?_
  rintro e w' ⟨rfl, rfl⟩
  clear c2
  go_wp2
  go_ret
  exact ⟨ret_bool (by rw [Bool.eq_iff_iff, beq_iff_eq, beq_iff_eq]; omega), rfl⟩


/-- quipuref.In. -/
theorem in_any (x : Um) (q : Nat) (hl : x.z.length ≤ 8) (hb : ∀ y ∈ x.z, y < 4294967296) (w : World) (hx : Us w x) :
    Calls Tryd.prog 10 #[x.v, .int .u32 (q : Nat)] w fun e w' => e = .returned (.bool (inb x.z q)) ∧ w' = w := by
  have HC : Hid (∀ s, s < 4294967296 → Calls Tryd.prog 20 #[x.v, .int .u32 (s : Nat)] w fun e w' => e = .returned (.int .u32 (sm x.z s : Nat)) ∧ w' = w) := fun s hs => refSum_any x s hs (by omega) hb w hx
  have IB : Hid (inb x.z q = true ↔ ∃ s, s < 2 ^ x.z.length ∧ sm x.z s = q) := inb_iff
  have hp : 2 ^ x.z.length ≤ 2 ^ 8 := Nat.pow_le_pow_right (by omega) hl
  have pw : (2 : Int) ^ x.z.length % 4294967296 = ((2 ^ x.z.length : Nat) : Int) := pow_in _ (by omega)
  clear hb hx
  obtain ⟨a, c, g⟩ := x
  simp only [Um.v] at *
  generalize inb g q = R at *
  generalize sm g = S at *
  generalize g.length = m at *
  generalize 2 ^ m = M at *
  go_enter Tryd.func10, Tryd.ntmps10
  go_wp2
  go_loopg [5] M (fun gg s5 wr => ∃ k : Nat, k ≤ M ∧ M - k ≤ gg ∧ s5 = .int .u32 k ∧ Aside (∀ s, s < k → S s ≠ q) ∧ wr = w)
  case atStart => exact ⟨0, Nat.zero_le _, by omega, rfl, fun s hs => absurd hs (Nat.not_lt_zero _), rfl⟩
  case round =>
    obtain ⟨k, hk, hg, rfl, A, rfl⟩ := hrel
    by_cases hlt : k < M
    · have hltz : (k : Int) < (M : Int) := by omega
      have c1 := HC.out k (by omega)
      have fin : Aside (S k = q → R = true) := fun h => IB.out.2 ⟨k, hlt, h⟩
      have go : Aside (S k ≠ q → ∀ s, s < k + 1 → S s ≠ q) := fun h i hi => by
        rcases Nat.lt_succ_iff_lt_or_eq.1 hi with h' | rfl
        · exact A.out i h'
        · exact h
      clear IB HC
      generalize S k = y at *
      by_cases h : y = q
      · have hz : ((y : Int) == (q : Int)) = true := by rw [h]; exact beq_self_eq_true _
        have F : Aside (R = true) := fin.out h
        clear fin go h
        go_wp2_with fail
        refine c1.mono ?_
        rintro e w9 ⟨rfl, rfl⟩
        clear c1
        go_wp2
        go_ret
        exact ⟨by rw [F.out]; rfl, rfl⟩
      · have hz : ((y : Int) == (q : Int)) = false := by rw [beq_eq_false_iff_ne]; omega
        have F : Aside (∀ s, s < k + 1 → S s ≠ q) := go.out h
        clear fin go h
        go_wp2_with fail
        refine c1.mono ?_
        rintro e w9 ⟨rfl, rfl⟩
        clear c1
        go_wp2
        go_roundg (M - (k + 1))
        case measure => omega
        case rel => exact ⟨k + 1, by omega, by omega, by go_num, F.out, rfl⟩
    · obtain rfl : M = k := by omega
      have hltz : ¬ (M : Int) < (M : Int) := by omega
      have F : Aside (R = false) := by
        show R = false
        cases hR : R
        · rfl
        · obtain ⟨s, h1, h2⟩ := IB.out.1 hR
          exact absurd h2 (A.out s h1)
      clear IB HC A
      go_wp2
      go_ret
      exact ⟨by rw [F.out]; rfl, rfl⟩


/-- quipukeep.below of one word in new memory. -/
theorem below_one (n : Nat) (hn : n ≤ 12) (q : Nat) (hq : q < 4294967296) (w : World) :
    Calls Tryd.prog 8 #[.int .i64 n, .slice (some ⟨w.heap.size, 0, none⟩) 1 1] (w.alloc (.cells #[.int .u32 q] 23)) fun e w' => e = .returned (.bool (decide (q < 2 ^ n))) ∧ Ext w w' := by
  have c1 := bitsUs_in n hn (some ⟨w.heap.size, 0, none⟩) w.heap.size 0 1 1 [q] rfl (by omega) (w.alloc (.cells #[.int .u32 q] 23)) (fun _ => rfl) (fun i hi => by
    obtain rfl : i = 0 := by omega
    exact cell_one_new w _ 23 0 _ rfl) (fun i hi => by
    obtain rfl : i = 0 := by omega
    exact hq)
  have E : Hid (Ext w (w.alloc (.cells #[.int .u32 q] 23))) := (Ext.refl w).alloc _
  have hr : (if (∀ x ∈ [q], x < 2 ^ n) then (0 : Int) else 4) = if q < 2 ^ n then 0 else 4 := by simp
  rw [hr] at c1
  clear hr
  generalize w.alloc (.cells #[.int .u32 q] 23) = W at *
  by_cases h : q < 2 ^ n
  · rw [if_pos h] at c1
    have hd : decide (q < 2 ^ n) = true := by simp [h]
    rw [hd]
    clear hd h
    go_enter Tryd.func8, Tryd.ntmps8
    go_wp2_with fail
    refine c1.mono ?_
    rintro e w' ⟨rfl, rfl⟩
    clear c1
    go_wp2
    go_ret
    exact ⟨rfl, E.out⟩
  · rw [if_neg h] at c1
    have hd : decide (q < 2 ^ n) = false := by simp; omega
    rw [hd]
    clear hd h
    go_enter Tryd.func8, Tryd.ntmps8
    go_wp2_with fail
    refine c1.mono ?_
    rintro e w' ⟨rfl, rfl⟩
    clear c1
    go_wp2
    go_ret
    exact ⟨rfl, E.out⟩

end Go.Proofs.YtdfjjjcaibadoabDoor
