/-
  hamm.checkRange, places, checkData, checkBits; quipulaw.hammCheck: what is told of r and of how many bits there are.
-/
import Derived.Test.YtdplmaofapnhhaaChecked
import Derived.Test.YtdplmaofapnhhaaBase
import Derived.Test.YtdplmaofapnhhaaHa
namespace Go.Proofs.Ytdplmaofapnhhaa
open Go.RowKit
set_option linter.unusedVariables false

/-- What is told of r. -/
def rge (r : Int) : Int := if 2 ≤ r ∧ r ≤ 4 then 0 else 4
/-- What is told of r and of n bits, where so many more than places must be. -/
def cke (r n more : Int) : Int := if 2 ≤ r ∧ r ≤ 4 then (if n = (2 ^ r.toNat : Nat) - 1 + more then 0 else 3) else 4

theorem rge_ok {r : Int} (h : 2 ≤ r ∧ r ≤ 4) : rge r = 0 := if_pos h
theorem rge_low {r : Int} (h : r < 2) : rge r = 4 := if_neg (by omega)
theorem rge_high {r : Int} (h : 4 < r) : rge r = 4 := if_neg (by omega)
theorem cke_no {r n more : Int} (h : ¬ (2 ≤ r ∧ r ≤ 4)) : cke r n more = 4 := if_neg h
theorem cke_form {r : Nat} (h : R r) {n more : Int} (hn : n ≠ (2 ^ r : Nat) - 1 + more) : cke r n more = 3 := by
  unfold R at h
  unfold cke
  rw [if_pos (by omega), Int.toNat_natCast, if_neg hn]
theorem cke_good {r : Nat} (h : R r) {n more : Int} (hn : n = (2 ^ r : Nat) - 1 + more) : cke r n more = 0 := by
  unfold R at h
  unfold cke
  rw [if_pos (by omega), Int.toNat_natCast, if_pos hn]
theorem of_cke {r n more : Int} (h : cke r n more = 0) : ∃ m : Nat, r = m ∧ R m ∧ n = (2 ^ m : Nat) - 1 + more := by
  unfold cke at h
  split at h
  · split at h
    · refine ⟨r.toNat, by omega, ?_, by assumption⟩
      unfold R; omega
    · cases h
  · cases h
theorem cke_ways (r n more : Int) : cke r n more = 0 ∨ cke r n more = 3 ∨ cke r n more = 4 := by
  unfold cke
  split
  · split <;> simp
  · simp

theorem checkRange_any (r : Int) (w : World) : Calls Try.prog 28 #[.int .i64 r] w fun e w' => e = .returned (.int .i64 (rge r)) ∧ w' = w := by
  rcases Int.lt_or_le r 2 with h | h
  · rw [rge_low h]
    go_enter Try.func28, Try.ntmps28
    go_wp2
    go_ret
    exact ⟨rfl, rfl⟩
  · rcases Int.lt_or_le 4 r with h' | h'
    · rw [rge_high h']
      go_enter Try.func28, Try.ntmps28
      go_wp2
      go_ret
      exact ⟨rfl, rfl⟩
    · rw [rge_ok ⟨h, h'⟩]
      go_enter Try.func28, Try.ntmps28
      go_wp2
      go_ret
      exact ⟨rfl, rfl⟩

theorem places_any {r : Nat} (h : R r) (w : World) : Calls Try.prog 29 #[.int .i64 r] w fun e w' => e = .returned (.int .i64 ((2 ^ r - 1 : Nat) : Int)) ∧ w' = w := by
  obtain rfl | rfl | rfl := h.cases
  all_goals
    go_enter Try.func29, Try.ntmps29
    go_wp2
    go_ret
    exact ⟨rfl, rfl⟩

theorem checkData_any (r : Int) (x : Wd) (w : World) : Calls Try.prog 19 #[.int .i64 r, x.v] w fun e w' => e = .returned (.int .i64 (cke r x.l.length (-r))) ∧ w' = w := by
  have c1 := checkRange_any r w
  simp only [Wd.v]
  generalize x.l.length = n at *
  by_cases h : 2 ≤ r ∧ r ≤ 4
  · obtain ⟨m, rfl⟩ := Int.eq_ofNat_of_zero_le (show 0 ≤ r by omega)
    have hm : R m := by unfold R; omega
    rw [rge_ok h] at c1
    obtain rfl | rfl | rfl := hm.cases
    · have c2 : Calls Try.prog 29 #[.int .i64 2] w fun e w' => e = .returned (.int .i64 3) ∧ w' = w := places_any hm w
      have c1' : Calls Try.prog 28 #[.int .i64 2] w fun e w' => e = .returned (.int .i64 0) ∧ w' = w := c1
      by_cases hn : (n : Int) = 1
      · obtain rfl : n = 1 := by omega
        show Calls Try.prog 19 #[.int .i64 2, .slice x.a 1 x.c] w fun e w' => e = .returned (.int .i64 0) ∧ w' = w
        go_enter Try.func19, Try.ntmps19
        go_wp2_with fail
        refine c1'.mono ?_
        rintro e w' ⟨rfl, rfl⟩
        clear c1 c1'
        go_wp2_with fail
        refine c2.mono ?_
        rintro e w' ⟨rfl, rfl⟩
        clear c2
        go_wp2
        go_ret
        exact ⟨rfl, rfl⟩
      · have e3 := cke_form hm (n := n) (more := -((2 : Nat) : Int)) (by simp; omega)
        rw [e3]
        show Calls Try.prog 19 #[.int .i64 2, .slice x.a n x.c] w fun e w' => e = .returned (.int .i64 3) ∧ w' = w
        have hn1 : ((n : Int) == 1) = false := beq_eq_false_iff_ne.2 hn
        clear e3
        go_enter Try.func19, Try.ntmps19
        go_wp2_with fail
        refine c1'.mono ?_
        rintro e w' ⟨rfl, rfl⟩
        clear c1 c1'
        go_wp2_with fail
        refine c2.mono ?_
        rintro e w' ⟨rfl, rfl⟩
        clear c2
        go_wp2
        go_ret
        exact ⟨rfl, rfl⟩
    · have c2 : Calls Try.prog 29 #[.int .i64 3] w fun e w' => e = .returned (.int .i64 7) ∧ w' = w := places_any hm w
      have c1' : Calls Try.prog 28 #[.int .i64 3] w fun e w' => e = .returned (.int .i64 0) ∧ w' = w := c1
      by_cases hn : (n : Int) = 4
      · obtain rfl : n = 4 := by omega
        show Calls Try.prog 19 #[.int .i64 3, .slice x.a 4 x.c] w fun e w' => e = .returned (.int .i64 0) ∧ w' = w
        go_enter Try.func19, Try.ntmps19
        go_wp2_with fail
        refine c1'.mono ?_
        rintro e w' ⟨rfl, rfl⟩
        clear c1 c1'
        go_wp2_with fail
        refine c2.mono ?_
        rintro e w' ⟨rfl, rfl⟩
        clear c2
        go_wp2
        go_ret
        exact ⟨rfl, rfl⟩
      · have e3 := cke_form hm (n := n) (more := -((3 : Nat) : Int)) (by simp; omega)
        rw [e3]
        show Calls Try.prog 19 #[.int .i64 3, .slice x.a n x.c] w fun e w' => e = .returned (.int .i64 3) ∧ w' = w
        have hn1 : ((n : Int) == 4) = false := beq_eq_false_iff_ne.2 hn
        clear e3
        go_enter Try.func19, Try.ntmps19
        go_wp2_with fail
        refine c1'.mono ?_
        rintro e w' ⟨rfl, rfl⟩
        clear c1 c1'
        go_wp2_with fail
        refine c2.mono ?_
        rintro e w' ⟨rfl, rfl⟩
        clear c2
        go_wp2
        go_ret
        exact ⟨rfl, rfl⟩
    · have c2 : Calls Try.prog 29 #[.int .i64 4] w fun e w' => e = .returned (.int .i64 15) ∧ w' = w := places_any hm w
      have c1' : Calls Try.prog 28 #[.int .i64 4] w fun e w' => e = .returned (.int .i64 0) ∧ w' = w := c1
      by_cases hn : (n : Int) = 11
      · obtain rfl : n = 11 := by omega
        show Calls Try.prog 19 #[.int .i64 4, .slice x.a 11 x.c] w fun e w' => e = .returned (.int .i64 0) ∧ w' = w
        go_enter Try.func19, Try.ntmps19
        go_wp2_with fail
        refine c1'.mono ?_
        rintro e w' ⟨rfl, rfl⟩
        clear c1 c1'
        go_wp2_with fail
        refine c2.mono ?_
        rintro e w' ⟨rfl, rfl⟩
        clear c2
        go_wp2
        go_ret
        exact ⟨rfl, rfl⟩
      · have e3 := cke_form hm (n := n) (more := -((4 : Nat) : Int)) (by simp; omega)
        rw [e3]
        show Calls Try.prog 19 #[.int .i64 4, .slice x.a n x.c] w fun e w' => e = .returned (.int .i64 3) ∧ w' = w
        have hn1 : ((n : Int) == 11) = false := beq_eq_false_iff_ne.2 hn
        clear e3
        go_enter Try.func19, Try.ntmps19
        go_wp2_with fail
        refine c1'.mono ?_
        rintro e w' ⟨rfl, rfl⟩
        clear c1 c1'
        go_wp2_with fail
        refine c2.mono ?_
        rintro e w' ⟨rfl, rfl⟩
        clear c2
        go_wp2
        go_ret
        exact ⟨rfl, rfl⟩
  · rw [cke_no h]
    rw [show rge r = 4 from if_neg h] at c1
    go_enter Try.func19, Try.ntmps19
    go_wp2_with fail
    refine c1.mono ?_
    rintro e w' ⟨rfl, rfl⟩
    clear c1
    go_wp2
    go_ret
    exact ⟨rfl, rfl⟩

theorem checkBits0_any (r : Int) (x : Wd) (w : World) : Calls Try.prog 24 #[.int .i64 r, x.v, .int .i64 0] w fun e w' => e = .returned (.int .i64 (cke r x.l.length 0)) ∧ w' = w := by
  have c1 := checkRange_any r w
  simp only [Wd.v]
  generalize x.l.length = n at *
  by_cases h : 2 ≤ r ∧ r ≤ 4
  · obtain ⟨m, rfl⟩ := Int.eq_ofNat_of_zero_le (show 0 ≤ r by omega)
    have hm : R m := by unfold R; omega
    rw [rge_ok h] at c1
    obtain rfl | rfl | rfl := hm.cases
    · have c2 : Calls Try.prog 29 #[.int .i64 2] w fun e w' => e = .returned (.int .i64 3) ∧ w' = w := places_any hm w
      have c1' : Calls Try.prog 28 #[.int .i64 2] w fun e w' => e = .returned (.int .i64 0) ∧ w' = w := c1
      clear c1
      by_cases hn : (n : Int) = 3
      · obtain rfl : n = 3 := by omega
        show Calls Try.prog 24 #[.int .i64 2, .slice x.a 3 x.c, .int .i64 0] w fun e w' => e = .returned (.int .i64 0) ∧ w' = w
        go_enter Try.func24, Try.ntmps24
        go_wp2_with fail
        refine c1'.mono ?_
        rintro e w' ⟨rfl, rfl⟩
        clear c1'
        go_wp2_with fail
        refine c2.mono ?_
        rintro e w' ⟨rfl, rfl⟩
        clear c2
        go_wp2
        go_ret
        exact ⟨rfl, rfl⟩
      · have e3 := cke_form hm (n := n) (more := 0) (by simp; omega)
        rw [e3]
        show Calls Try.prog 24 #[.int .i64 2, .slice x.a n x.c, .int .i64 0] w fun e w' => e = .returned (.int .i64 3) ∧ w' = w
        have hn1 : ((n : Int) == 3) = false := beq_eq_false_iff_ne.2 hn
        clear e3
        go_enter Try.func24, Try.ntmps24
        go_wp2_with fail
        refine c1'.mono ?_
        rintro e w' ⟨rfl, rfl⟩
        clear c1'
        go_wp2_with fail
        refine c2.mono ?_
        rintro e w' ⟨rfl, rfl⟩
        clear c2
        go_wp2
        go_ret
        exact ⟨rfl, rfl⟩
    · have c2 : Calls Try.prog 29 #[.int .i64 3] w fun e w' => e = .returned (.int .i64 7) ∧ w' = w := places_any hm w
      have c1' : Calls Try.prog 28 #[.int .i64 3] w fun e w' => e = .returned (.int .i64 0) ∧ w' = w := c1
      clear c1
      by_cases hn : (n : Int) = 7
      · obtain rfl : n = 7 := by omega
        show Calls Try.prog 24 #[.int .i64 3, .slice x.a 7 x.c, .int .i64 0] w fun e w' => e = .returned (.int .i64 0) ∧ w' = w
        go_enter Try.func24, Try.ntmps24
        go_wp2_with fail
        refine c1'.mono ?_
        rintro e w' ⟨rfl, rfl⟩
        clear c1'
        go_wp2_with fail
        refine c2.mono ?_
        rintro e w' ⟨rfl, rfl⟩
        clear c2
        go_wp2
        go_ret
        exact ⟨rfl, rfl⟩
      · have e3 := cke_form hm (n := n) (more := 0) (by simp; omega)
        rw [e3]
        show Calls Try.prog 24 #[.int .i64 3, .slice x.a n x.c, .int .i64 0] w fun e w' => e = .returned (.int .i64 3) ∧ w' = w
        have hn1 : ((n : Int) == 7) = false := beq_eq_false_iff_ne.2 hn
        clear e3
        go_enter Try.func24, Try.ntmps24
        go_wp2_with fail
        refine c1'.mono ?_
        rintro e w' ⟨rfl, rfl⟩
        clear c1'
        go_wp2_with fail
        refine c2.mono ?_
        rintro e w' ⟨rfl, rfl⟩
        clear c2
        go_wp2
        go_ret
        exact ⟨rfl, rfl⟩
    · have c2 : Calls Try.prog 29 #[.int .i64 4] w fun e w' => e = .returned (.int .i64 15) ∧ w' = w := places_any hm w
      have c1' : Calls Try.prog 28 #[.int .i64 4] w fun e w' => e = .returned (.int .i64 0) ∧ w' = w := c1
      clear c1
      by_cases hn : (n : Int) = 15
      · obtain rfl : n = 15 := by omega
        show Calls Try.prog 24 #[.int .i64 4, .slice x.a 15 x.c, .int .i64 0] w fun e w' => e = .returned (.int .i64 0) ∧ w' = w
        go_enter Try.func24, Try.ntmps24
        go_wp2_with fail
        refine c1'.mono ?_
        rintro e w' ⟨rfl, rfl⟩
        clear c1'
        go_wp2_with fail
        refine c2.mono ?_
        rintro e w' ⟨rfl, rfl⟩
        clear c2
        go_wp2
        go_ret
        exact ⟨rfl, rfl⟩
      · have e3 := cke_form hm (n := n) (more := 0) (by simp; omega)
        rw [e3]
        show Calls Try.prog 24 #[.int .i64 4, .slice x.a n x.c, .int .i64 0] w fun e w' => e = .returned (.int .i64 3) ∧ w' = w
        have hn1 : ((n : Int) == 15) = false := beq_eq_false_iff_ne.2 hn
        clear e3
        go_enter Try.func24, Try.ntmps24
        go_wp2_with fail
        refine c1'.mono ?_
        rintro e w' ⟨rfl, rfl⟩
        clear c1'
        go_wp2_with fail
        refine c2.mono ?_
        rintro e w' ⟨rfl, rfl⟩
        clear c2
        go_wp2
        go_ret
        exact ⟨rfl, rfl⟩
  · rw [cke_no h]
    rw [show rge r = 4 from if_neg h] at c1
    go_enter Try.func24, Try.ntmps24
    go_wp2_with fail
    refine c1.mono ?_
    rintro e w' ⟨rfl, rfl⟩
    clear c1
    go_wp2
    go_ret
    exact ⟨rfl, rfl⟩

theorem checkBits1_any (r : Int) (x : Wd) (w : World) : Calls Try.prog 24 #[.int .i64 r, x.v, .int .i64 1] w fun e w' => e = .returned (.int .i64 (cke r x.l.length 1)) ∧ w' = w := by
  have c1 := checkRange_any r w
  simp only [Wd.v]
  generalize x.l.length = n at *
  by_cases h : 2 ≤ r ∧ r ≤ 4
  · obtain ⟨m, rfl⟩ := Int.eq_ofNat_of_zero_le (show 0 ≤ r by omega)
    have hm : R m := by unfold R; omega
    rw [rge_ok h] at c1
    obtain rfl | rfl | rfl := hm.cases
    · have c2 : Calls Try.prog 29 #[.int .i64 2] w fun e w' => e = .returned (.int .i64 3) ∧ w' = w := places_any hm w
      have c1' : Calls Try.prog 28 #[.int .i64 2] w fun e w' => e = .returned (.int .i64 0) ∧ w' = w := c1
      clear c1
      by_cases hn : (n : Int) = 4
      · obtain rfl : n = 4 := by omega
        show Calls Try.prog 24 #[.int .i64 2, .slice x.a 4 x.c, .int .i64 1] w fun e w' => e = .returned (.int .i64 0) ∧ w' = w
        go_enter Try.func24, Try.ntmps24
        go_wp2_with fail
        refine c1'.mono ?_
        rintro e w' ⟨rfl, rfl⟩
        clear c1'
        go_wp2_with fail
        refine c2.mono ?_
        rintro e w' ⟨rfl, rfl⟩
        clear c2
        go_wp2
        go_ret
        exact ⟨rfl, rfl⟩
      · have e3 := cke_form hm (n := n) (more := 1) (by simp; omega)
        rw [e3]
        show Calls Try.prog 24 #[.int .i64 2, .slice x.a n x.c, .int .i64 1] w fun e w' => e = .returned (.int .i64 3) ∧ w' = w
        have hn1 : ((n : Int) == 4) = false := beq_eq_false_iff_ne.2 hn
        clear e3
        go_enter Try.func24, Try.ntmps24
        go_wp2_with fail
        refine c1'.mono ?_
        rintro e w' ⟨rfl, rfl⟩
        clear c1'
        go_wp2_with fail
        refine c2.mono ?_
        rintro e w' ⟨rfl, rfl⟩
        clear c2
        go_wp2
        go_ret
        exact ⟨rfl, rfl⟩
    · have c2 : Calls Try.prog 29 #[.int .i64 3] w fun e w' => e = .returned (.int .i64 7) ∧ w' = w := places_any hm w
      have c1' : Calls Try.prog 28 #[.int .i64 3] w fun e w' => e = .returned (.int .i64 0) ∧ w' = w := c1
      clear c1
      by_cases hn : (n : Int) = 8
      · obtain rfl : n = 8 := by omega
        show Calls Try.prog 24 #[.int .i64 3, .slice x.a 8 x.c, .int .i64 1] w fun e w' => e = .returned (.int .i64 0) ∧ w' = w
        go_enter Try.func24, Try.ntmps24
        go_wp2_with fail
        refine c1'.mono ?_
        rintro e w' ⟨rfl, rfl⟩
        clear c1'
        go_wp2_with fail
        refine c2.mono ?_
        rintro e w' ⟨rfl, rfl⟩
        clear c2
        go_wp2
        go_ret
        exact ⟨rfl, rfl⟩
      · have e3 := cke_form hm (n := n) (more := 1) (by simp; omega)
        rw [e3]
        show Calls Try.prog 24 #[.int .i64 3, .slice x.a n x.c, .int .i64 1] w fun e w' => e = .returned (.int .i64 3) ∧ w' = w
        have hn1 : ((n : Int) == 8) = false := beq_eq_false_iff_ne.2 hn
        clear e3
        go_enter Try.func24, Try.ntmps24
        go_wp2_with fail
        refine c1'.mono ?_
        rintro e w' ⟨rfl, rfl⟩
        clear c1'
        go_wp2_with fail
        refine c2.mono ?_
        rintro e w' ⟨rfl, rfl⟩
        clear c2
        go_wp2
        go_ret
        exact ⟨rfl, rfl⟩
    · have c2 : Calls Try.prog 29 #[.int .i64 4] w fun e w' => e = .returned (.int .i64 15) ∧ w' = w := places_any hm w
      have c1' : Calls Try.prog 28 #[.int .i64 4] w fun e w' => e = .returned (.int .i64 0) ∧ w' = w := c1
      clear c1
      by_cases hn : (n : Int) = 16
      · obtain rfl : n = 16 := by omega
        show Calls Try.prog 24 #[.int .i64 4, .slice x.a 16 x.c, .int .i64 1] w fun e w' => e = .returned (.int .i64 0) ∧ w' = w
        go_enter Try.func24, Try.ntmps24
        go_wp2_with fail
        refine c1'.mono ?_
        rintro e w' ⟨rfl, rfl⟩
        clear c1'
        go_wp2_with fail
        refine c2.mono ?_
        rintro e w' ⟨rfl, rfl⟩
        clear c2
        go_wp2
        go_ret
        exact ⟨rfl, rfl⟩
      · have e3 := cke_form hm (n := n) (more := 1) (by simp; omega)
        rw [e3]
        show Calls Try.prog 24 #[.int .i64 4, .slice x.a n x.c, .int .i64 1] w fun e w' => e = .returned (.int .i64 3) ∧ w' = w
        have hn1 : ((n : Int) == 16) = false := beq_eq_false_iff_ne.2 hn
        clear e3
        go_enter Try.func24, Try.ntmps24
        go_wp2_with fail
        refine c1'.mono ?_
        rintro e w' ⟨rfl, rfl⟩
        clear c1'
        go_wp2_with fail
        refine c2.mono ?_
        rintro e w' ⟨rfl, rfl⟩
        clear c2
        go_wp2
        go_ret
        exact ⟨rfl, rfl⟩
  · rw [cke_no h]
    rw [show rge r = 4 from if_neg h] at c1
    go_enter Try.func24, Try.ntmps24
    go_wp2_with fail
    refine c1.mono ?_
    rintro e w' ⟨rfl, rfl⟩
    clear c1
    go_wp2
    go_ret
    exact ⟨rfl, rfl⟩

theorem refCheckD_any (r : Int) (n : Nat) (M : Int) (hM : 2 ≤ r ∧ r ≤ 4 → M = -r) (w : World) : Calls Try.prog 10 #[.int .i64 r, .int .i64 n, .int .i64 (M)] w fun e w' => e = .returned (.int .i64 (cke r n (-r))) ∧ w' = w := by
  by_cases h : 2 ≤ r ∧ r ≤ 4
  · obtain ⟨m, rfl⟩ := Int.eq_ofNat_of_zero_le (show 0 ≤ r by omega)
    have hm : R m := by unfold R; omega
    rw [hM h]
    clear hM
    obtain rfl | rfl | rfl := hm.cases
    · by_cases hn : (n : Int) = 1
      · obtain rfl : n = 1 := by omega
        show Calls Try.prog 10 #[.int .i64 2, .int .i64 1, .int .i64 (-2)] w fun e w' => e = .returned (.int .i64 0) ∧ w' = w
        go_enter Try.func10, Try.ntmps10
        go_wp2
        go_ret
        exact ⟨rfl, rfl⟩
      · have e3 := cke_form hm (n := n) (more := -((2 : Nat) : Int)) (by simp; omega)
        rw [e3]
        show Calls Try.prog 10 #[.int .i64 2, .int .i64 n, .int .i64 (-2)] w fun e w' => e = .returned (.int .i64 3) ∧ w' = w
        have hn1 : ((n : Int) == 1) = false := beq_eq_false_iff_ne.2 hn
        clear e3
        go_enter Try.func10, Try.ntmps10
        go_wp2
        go_ret
        exact ⟨rfl, rfl⟩
    · by_cases hn : (n : Int) = 4
      · obtain rfl : n = 4 := by omega
        show Calls Try.prog 10 #[.int .i64 3, .int .i64 4, .int .i64 (-3)] w fun e w' => e = .returned (.int .i64 0) ∧ w' = w
        go_enter Try.func10, Try.ntmps10
        go_wp2
        go_ret
        exact ⟨rfl, rfl⟩
      · have e3 := cke_form hm (n := n) (more := -((3 : Nat) : Int)) (by simp; omega)
        rw [e3]
        show Calls Try.prog 10 #[.int .i64 3, .int .i64 n, .int .i64 (-3)] w fun e w' => e = .returned (.int .i64 3) ∧ w' = w
        have hn1 : ((n : Int) == 4) = false := beq_eq_false_iff_ne.2 hn
        clear e3
        go_enter Try.func10, Try.ntmps10
        go_wp2
        go_ret
        exact ⟨rfl, rfl⟩
    · by_cases hn : (n : Int) = 11
      · obtain rfl : n = 11 := by omega
        show Calls Try.prog 10 #[.int .i64 4, .int .i64 11, .int .i64 (-4)] w fun e w' => e = .returned (.int .i64 0) ∧ w' = w
        go_enter Try.func10, Try.ntmps10
        go_wp2
        go_ret
        exact ⟨rfl, rfl⟩
      · have e3 := cke_form hm (n := n) (more := -((4 : Nat) : Int)) (by simp; omega)
        rw [e3]
        show Calls Try.prog 10 #[.int .i64 4, .int .i64 n, .int .i64 (-4)] w fun e w' => e = .returned (.int .i64 3) ∧ w' = w
        have hn1 : ((n : Int) == 11) = false := beq_eq_false_iff_ne.2 hn
        clear e3
        go_enter Try.func10, Try.ntmps10
        go_wp2
        go_ret
        exact ⟨rfl, rfl⟩
  · rw [cke_no h]
    clear hM
    rcases Int.lt_or_le r 2 with h' | h'
    · have h1 : r < 2 := h'
      clear h h'
      go_enter Try.func10, Try.ntmps10
      go_wp2
      go_ret
      exact ⟨rfl, rfl⟩
    · have h1 : 4 < r := by omega
      have h2 : ¬ (r < 2) := by omega
      clear h h'
      go_enter Try.func10, Try.ntmps10
      go_wp2
      go_ret
      exact ⟨rfl, rfl⟩

theorem refCheck0_any (r : Int) (n : Nat) (w : World) : Calls Try.prog 10 #[.int .i64 r, .int .i64 n, .int .i64 (0)] w fun e w' => e = .returned (.int .i64 (cke r n (0))) ∧ w' = w := by
  by_cases h : 2 ≤ r ∧ r ≤ 4
  · obtain ⟨m, rfl⟩ := Int.eq_ofNat_of_zero_le (show 0 ≤ r by omega)
    have hm : R m := by unfold R; omega
    obtain rfl | rfl | rfl := hm.cases
    · by_cases hn : (n : Int) = 3
      · obtain rfl : n = 3 := by omega
        show Calls Try.prog 10 #[.int .i64 2, .int .i64 3, .int .i64 0] w fun e w' => e = .returned (.int .i64 0) ∧ w' = w
        go_enter Try.func10, Try.ntmps10
        go_wp2
        go_ret
        exact ⟨rfl, rfl⟩
      · have e3 := cke_form hm (n := n) (more := 0) (by simp; omega)
        rw [e3]
        show Calls Try.prog 10 #[.int .i64 2, .int .i64 n, .int .i64 0] w fun e w' => e = .returned (.int .i64 3) ∧ w' = w
        have hn1 : ((n : Int) == 3) = false := beq_eq_false_iff_ne.2 hn
        clear e3
        go_enter Try.func10, Try.ntmps10
        go_wp2
        go_ret
        exact ⟨rfl, rfl⟩
    · by_cases hn : (n : Int) = 7
      · obtain rfl : n = 7 := by omega
        show Calls Try.prog 10 #[.int .i64 3, .int .i64 7, .int .i64 0] w fun e w' => e = .returned (.int .i64 0) ∧ w' = w
        go_enter Try.func10, Try.ntmps10
        go_wp2
        go_ret
        exact ⟨rfl, rfl⟩
      · have e3 := cke_form hm (n := n) (more := 0) (by simp; omega)
        rw [e3]
        show Calls Try.prog 10 #[.int .i64 3, .int .i64 n, .int .i64 0] w fun e w' => e = .returned (.int .i64 3) ∧ w' = w
        have hn1 : ((n : Int) == 7) = false := beq_eq_false_iff_ne.2 hn
        clear e3
        go_enter Try.func10, Try.ntmps10
        go_wp2
        go_ret
        exact ⟨rfl, rfl⟩
    · by_cases hn : (n : Int) = 15
      · obtain rfl : n = 15 := by omega
        show Calls Try.prog 10 #[.int .i64 4, .int .i64 15, .int .i64 0] w fun e w' => e = .returned (.int .i64 0) ∧ w' = w
        go_enter Try.func10, Try.ntmps10
        go_wp2
        go_ret
        exact ⟨rfl, rfl⟩
      · have e3 := cke_form hm (n := n) (more := 0) (by simp; omega)
        rw [e3]
        show Calls Try.prog 10 #[.int .i64 4, .int .i64 n, .int .i64 0] w fun e w' => e = .returned (.int .i64 3) ∧ w' = w
        have hn1 : ((n : Int) == 15) = false := beq_eq_false_iff_ne.2 hn
        clear e3
        go_enter Try.func10, Try.ntmps10
        go_wp2
        go_ret
        exact ⟨rfl, rfl⟩
  · rw [cke_no h]
    rcases Int.lt_or_le r 2 with h' | h'
    · have h1 : r < 2 := h'
      clear h h'
      go_enter Try.func10, Try.ntmps10
      go_wp2
      go_ret
      exact ⟨rfl, rfl⟩
    · have h1 : 4 < r := by omega
      have h2 : ¬ (r < 2) := by omega
      clear h h'
      go_enter Try.func10, Try.ntmps10
      go_wp2
      go_ret
      exact ⟨rfl, rfl⟩

theorem refCheck1_any (r : Int) (n : Nat) (w : World) : Calls Try.prog 10 #[.int .i64 r, .int .i64 n, .int .i64 (1)] w fun e w' => e = .returned (.int .i64 (cke r n (1))) ∧ w' = w := by
  by_cases h : 2 ≤ r ∧ r ≤ 4
  · obtain ⟨m, rfl⟩ := Int.eq_ofNat_of_zero_le (show 0 ≤ r by omega)
    have hm : R m := by unfold R; omega
    obtain rfl | rfl | rfl := hm.cases
    · by_cases hn : (n : Int) = 4
      · obtain rfl : n = 4 := by omega
        show Calls Try.prog 10 #[.int .i64 2, .int .i64 4, .int .i64 1] w fun e w' => e = .returned (.int .i64 0) ∧ w' = w
        go_enter Try.func10, Try.ntmps10
        go_wp2
        go_ret
        exact ⟨rfl, rfl⟩
      · have e3 := cke_form hm (n := n) (more := 1) (by simp; omega)
        rw [e3]
        show Calls Try.prog 10 #[.int .i64 2, .int .i64 n, .int .i64 1] w fun e w' => e = .returned (.int .i64 3) ∧ w' = w
        have hn1 : ((n : Int) == 4) = false := beq_eq_false_iff_ne.2 hn
        clear e3
        go_enter Try.func10, Try.ntmps10
        go_wp2
        go_ret
        exact ⟨rfl, rfl⟩
    · by_cases hn : (n : Int) = 8
      · obtain rfl : n = 8 := by omega
        show Calls Try.prog 10 #[.int .i64 3, .int .i64 8, .int .i64 1] w fun e w' => e = .returned (.int .i64 0) ∧ w' = w
        go_enter Try.func10, Try.ntmps10
        go_wp2
        go_ret
        exact ⟨rfl, rfl⟩
      · have e3 := cke_form hm (n := n) (more := 1) (by simp; omega)
        rw [e3]
        show Calls Try.prog 10 #[.int .i64 3, .int .i64 n, .int .i64 1] w fun e w' => e = .returned (.int .i64 3) ∧ w' = w
        have hn1 : ((n : Int) == 8) = false := beq_eq_false_iff_ne.2 hn
        clear e3
        go_enter Try.func10, Try.ntmps10
        go_wp2
        go_ret
        exact ⟨rfl, rfl⟩
    · by_cases hn : (n : Int) = 16
      · obtain rfl : n = 16 := by omega
        show Calls Try.prog 10 #[.int .i64 4, .int .i64 16, .int .i64 1] w fun e w' => e = .returned (.int .i64 0) ∧ w' = w
        go_enter Try.func10, Try.ntmps10
        go_wp2
        go_ret
        exact ⟨rfl, rfl⟩
      · have e3 := cke_form hm (n := n) (more := 1) (by simp; omega)
        rw [e3]
        show Calls Try.prog 10 #[.int .i64 4, .int .i64 n, .int .i64 1] w fun e w' => e = .returned (.int .i64 3) ∧ w' = w
        have hn1 : ((n : Int) == 16) = false := beq_eq_false_iff_ne.2 hn
        clear e3
        go_enter Try.func10, Try.ntmps10
        go_wp2
        go_ret
        exact ⟨rfl, rfl⟩
  · rw [cke_no h]
    rcases Int.lt_or_le r 2 with h' | h'
    · have h1 : r < 2 := h'
      clear h h'
      go_enter Try.func10, Try.ntmps10
      go_wp2
      go_ret
      exact ⟨rfl, rfl⟩
    · have h1 : 4 < r := by omega
      have h2 : ¬ (r < 2) := by omega
      clear h h'
      go_enter Try.func10, Try.ntmps10
      go_wp2
      go_ret
      exact ⟨rfl, rfl⟩

end Go.Proofs.Ytdplmaofapnhhaa
