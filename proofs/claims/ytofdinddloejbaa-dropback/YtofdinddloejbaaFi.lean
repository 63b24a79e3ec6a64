/-
  drop.behind, drop.Fill.
-/
import Derived.Test.YtofdinddloejbaaPl
import Derived.Test.YtofdinddloejbaaCn
namespace Go.Proofs.Ytofdinddloejbaa
open Go.RowKit
set_option linter.unusedVariables false

set_option maxHeartbeats 1000000 in
theorem behind_any (x : Wd) (q : Bool) (m : Nat) (hm : m ≤ cl q x.l) (w : World) (hx : Bits w x) : Calls Try.prog 26 #[x.v, .bool q, .int .i64 m] w fun e w' => e = .returned (.int .i64 (bh q x.l m : Nat)) ∧ w' = w := by
  obtain ⟨a, c, l⟩ := x
  obtain ⟨h1, h2, _, b, o, h4, h5⟩ := hx
  simp only at h1 h2 h4 h5 hm ⊢
  simp only [Wd.v]
  obtain ⟨B, hB⟩ : ∃ B : Nat → Bool, ∀ k, B k = l.getD k false := ⟨_, fun _ => rfl⟩
  obtain ⟨R, hR⟩ : ∃ R : Nat → Nat → Prop, ∀ k j, R k j ↔ (k + bh q (l.drop k) j = bh q l m ∧ j ≤ cl q (l.drop k)) := ⟨_, fun _ _ => Iff.rfl⟩
  have HC : Hid (∀ i, i < l.length → w.cell? ⟨b, o + i, none⟩ = some (.bool (B i))) := fun i hi => by rw [hB]; exact h5 i hi
  have NX : Hid (∀ k j, R k (j + 1) → k < l.length ∧ R (k + 1) (if B k = q then j else j + 1)) := fun k j h => by
    rw [hR] at h
    obtain ⟨e1, e2, e3⟩ := bh_step q h.2
    have e4 := h.1
    rw [e2] at e4
    refine ⟨e1, ?_⟩
    rw [hR, hB]
    refine ⟨?_, e3⟩
    rw [← e4]
    split <;> omega
  have Z0 : Hid (R 0 m) := by
    show R 0 m
    rw [hR]
    exact ⟨by rw [List.drop_zero, Nat.zero_add], hm⟩
  have ZN : Hid (∀ k, R k 0 → bh q l m = k) := fun k h => by
    rw [hR, bh_zero] at h
    omega
  have HJ : Hid (∀ k j, R k j → j ≤ l.length) := fun k j h => by
    rw [hR] at h
    have h3 := ct_le (l.drop k)
    have h4 := cl_false (l.drop k)
    have h5 := cl_true (l.drop k)
    have h6 : (l.drop k).length ≤ l.length := by rw [List.length_drop]; omega
    cases q <;> omega
  clear h5 hB hR hm
  generalize bh q l m = T at *
  generalize l.length = n at *
  unfold maxLen at h2
  go_enter Try.func26, Try.ntmps26
  go_wp2
  go_loopg [2, 7] n (fun gg s2 s7 wr => wr = w ∧ ∃ k j : Nat, k ≤ n ∧ n - k ≤ gg ∧ s2 = .int .i64 j ∧ s7 = .int .i64 k ∧ Hid (R k j))
  case atStart => exact ⟨rfl, 0, m, Nat.zero_le _, by omega, rfl, rfl, Z0.out⟩
  case round =>
    obtain ⟨rfl, k, j, hk, hgg, rfl, rfl, HR⟩ := hrel
    cases j with
    | zero =>
      have hz : ¬ (((0 : Nat) : Int) > 0) := by omega
      have e := ZN.out k HR.out
      clear HC NX Z0 ZN HR HJ
      subst e
      go_wp2
      go_ret
      exact ⟨rfl, rfl⟩
    | succ j =>
      have hz : ((j + 1 : Nat) : Int) > 0 := by omega
      have hj := HJ.out _ _ HR.out
      obtain ⟨hlt, hnx⟩ := NX.out k j HR.out
      have hltz : (k : Int) < (n : Int) := by omega
      obtain rfl := h4 (by omega)
      have e1 := HC.out k hlt
      clear HC NX Z0 ZN h4 HR HJ
      by_cases hy : B k = q
      · rw [if_pos hy] at hnx
        have NX' : Hid (R (k + 1) j) := hnx
        rw [hy] at e1
        clear hy hnx
        cases q
        all_goals
          go_wp2
          go_roundg (n - (k + 1))
          case measure => omega
          case rel => exact ⟨rfl, k + 1, j, by omega, by omega, by go_num, by go_num, NX'.out⟩
      · rw [if_neg hy] at hnx
        have NX' : Hid (R (k + 1) (j + 1)) := hnx
        have hy' : B k = !q := by cases hb : B k <;> cases q <;> simp_all
        rw [hy'] at e1
        clear hy hy' hnx
        cases q
        all_goals
          simp only [Bool.not_true, Bool.not_false] at e1
          go_wp2
          go_roundg (n - (k + 1))
          case measure => omega
          case rel => exact ⟨rfl, k + 1, j + 1, by omega, by omega, by go_num, by go_num, NX'.out⟩

set_option maxHeartbeats 1000000 in
theorem Fill_large (a : Int) (x : Wd) (hl : 12 ≤ x.l.length) (hlen : x.l.length ≤ maxLen) (w : World) : Calls Try.prog 15 #[.int .i64 a, x.v] w fun e w' => e = .returned (.tuple #[.slice none 0 0, .int .i64 1]) ∧ w' = w := by
  have c1 := check_any (wrap64 ((x.l.length : Int) + 1)) a w
  have hc : dce (wrap64 ((x.l.length : Int) + 1)) a = 1 := by
    have : wrap64 ((x.l.length : Int) + 1) < 0 ∨ 12 < wrap64 ((x.l.length : Int) + 1) := by
      unfold maxLen at hlen
      unfold wrap64
      omega
    unfold dce
    rw [if_pos this]
  rw [hc] at c1
  simp only [Wd.v] at *
  generalize x.l.length = n at *
  clear hc hlen hl
  go_enter Try.func15, Try.ntmps15
  go_wp2_with fail
  refine c1.mono ?_
  rintro e w1 ⟨rfl, rfl⟩
  clear c1
  go_wp2
  go_ret2
  exact ⟨rfl, rfl⟩

theorem Fill_range (a : Int) (x : Wd) (hl : x.l.length < 12) (ha : a < 0 ∨ (x.l.length : Int) + 1 < a) (w : World) : Calls Try.prog 15 #[.int .i64 a, x.v] w fun e w' => e = .returned (.tuple #[.slice none 0 0, .int .i64 4]) ∧ w' = w := by
  have c1 := check_any ((x.l.length : Int) + 1) a w
  have hc : dce ((x.l.length : Int) + 1) a = 4 := by
    unfold dce
    rw [if_neg (by omega), if_pos (by omega)]
  rw [hc] at c1
  simp only [Wd.v] at *
  generalize x.l.length = n at *
  clear hc
  go_enter Try.func15, Try.ntmps15
  go_wp2_with fail
  refine c1.mono ?_
  rintro e w1 ⟨rfl, rfl⟩
  clear c1
  go_wp2
  go_ret2
  exact ⟨rfl, rfl⟩

set_option maxHeartbeats 2000000 in
theorem Fill_good (a : Nat) (x : Wd) (hl : x.l.length < 12) (ha : a ≤ x.l.length + 1) (w : World) (hx : Bits w x) : Calls Try.prog 15 #[.int .i64 a, x.v] w fun e w' => ∃ v, e = .returned (.tuple #[v, .int .i64 0]) ∧ OwnB w w' v (fl a x.l) := by
  have c1 := check_any ((x.l.length : Int) + 1) a w
  rw [show dce ((x.l.length : Int) + 1) a = 0 by unfold dce; rw [if_neg (by omega), if_neg (by omega)]] at c1
  have c2 := places_any x (by omega) w hx
  have c3 := count_any x w hx
  have hp := ps_le x.l 0
  have hp2 : (0 + x.l.length) * x.l.length ≤ 12 * 12 := Nat.mul_le_mul (by omega) (by omega)
  have hc := ct_le x.l
  have hM := ms_le a x.l
  have hms : ms a x.l = (a + (x.l.length + 1) + 1 - ps 0 x.l % (x.l.length + 1 + 1)) % (x.l.length + 1 + 1) := rfl
  have hr : ps 0 x.l % (x.l.length + 1 + 1) < x.l.length + 1 + 1 := Nat.mod_lt _ (by omega)
  have hcl := cl_false x.l
  have hct := cl_true x.l
  have CA : Hid (ms a x.l ≤ ct x.l → ∃ k : Nat, k ≤ x.l.length ∧ fl a x.l = ins k false x.l ∧ Calls Try.prog 26 #[x.v, .bool true, .int .i64 ((ct x.l : Int) - (ms a x.l : Int))] w fun e w' => e = .returned (.int .i64 (k : Nat)) ∧ w' = w) := fun h => by
    refine ⟨bh true x.l (ct x.l - ms a x.l), bh_le _ _ _, by unfold fl; rw [if_pos h], ?_⟩
    have := behind_any x true (ct x.l - ms a x.l) (by omega) w hx
    rw [Int.ofNat_sub h] at this
    exact this
  have CB : Hid (¬ ms a x.l ≤ ct x.l → ∃ k : Nat, k ≤ x.l.length ∧ fl a x.l = ins k true x.l ∧ Calls Try.prog 26 #[x.v, .bool false, .int .i64 ((ms a x.l : Int) - (ct x.l : Int) - 1)] w fun e w' => e = .returned (.int .i64 (k : Nat)) ∧ w' = w) := fun h => by
    refine ⟨bh false x.l (ms a x.l - ct x.l - 1), bh_le _ _ _, by unfold fl; rw [if_neg h], ?_⟩
    have := behind_any x false (ms a x.l - ct x.l - 1) (by omega) w hx
    rw [show ((ms a x.l - ct x.l - 1 : Nat) : Int) = (ms a x.l : Int) - (ct x.l : Int) - 1 by omega] at this
    exact this
  have CI : Hid (∀ (k : Nat) (b : Bool), k ≤ x.l.length → Calls Try.prog 25 #[x.v, .int .i64 k, .bool b] w fun e w' => ∃ v, e = .returned v ∧ OwnB w w' v (ins k b x.l)) := fun k b hk => insert_any x k b hk (by omega) w hx
  simp only [Wd.v] at *
  generalize fl a x.l = F at *
  have hI : ∃ I : Nat → Bool → List Bool, ∀ k b, I k b = ins k b x.l := ⟨_, fun _ _ => rfl⟩
  obtain ⟨I, hI⟩ := hI
  simp only [← hI] at CA CB CI
  clear hI hx hcl hct
  generalize ms a x.l = M at *
  generalize ct x.l = T at *
  generalize ps 0 x.l = P at *
  generalize x.l.length = n at *
  have hP : P ≤ 144 := by omega
  clear hp hp2
  obtain ⟨r, hrr⟩ : ∃ r, P % (n + 1 + 1) = r := ⟨_, rfl⟩
  have e1 : ((P : Int).tmod ((n : Int) + 1 + 1)) = (r : Int) := by
    rw [← hrr]
    exact (Int.ofNat_tmod P (n + 1 + 1)).symm
  rw [hrr] at hms hr
  have e2 : (((a : Int) + ((n : Int) + 1) + 1 - (r : Int)).tmod ((n : Int) + 1 + 1)) = (M : Int) := by
    rw [hms, Int.natCast_emod]
    rw [show ((a + (n + 1) + 1 - r : Nat) : Int) = (a : Int) + ((n : Int) + 1) + 1 - (r : Int) by omega]
    rw [Int.tmod_eq_emod_of_nonneg (by omega)]
    rfl
  clear hms hrr
  go_enter Try.func15, Try.ntmps15
  go_wp2_with fail
  refine c1.mono ?_
  rintro e w1 ⟨rfl, rfl⟩
  clear c1
  go_wp2_with fail
  refine c2.mono ?_
  rintro e w1 ⟨rfl, rfl⟩
  clear c2
  go_wp2_with fail
  refine c3.mono ?_
  rintro e w1 ⟨rfl, rfl⟩
  clear c3
  by_cases h : M ≤ T
  · have hz : (M : Int) ≤ (T : Int) := by omega
    obtain ⟨k, hk, hF, c4⟩ := CA.out h
    have c5 := CI.out k false hk
    clear CA CB CI
    have HF : Hid (F = I k false) := hF
    clear hF
    go_wp2_with fail
    refine c4.mono ?_
    rintro e w1 ⟨rfl, rfl⟩
    clear c4
    go_wp2_with fail
    refine c5.mono ?_
    rintro e w2 ⟨v, rfl, hO⟩
    have O : Hid (OwnB w1 w2 v F) := by show OwnB _ _ _ _; rw [HF.out]; exact hO
    clear c5 hO HF
    go_wp2
    go_ret2
    exact ⟨v, rfl, O.out⟩
  · have hz : ¬ (M : Int) ≤ (T : Int) := by omega
    obtain ⟨k, hk, hF, c4⟩ := CB.out h
    have c5 := CI.out k true hk
    clear CA CB CI
    have HF : Hid (F = I k true) := hF
    clear hF
    go_wp2_with fail
    refine c4.mono ?_
    rintro e w1 ⟨rfl, rfl⟩
    clear c4
    go_wp2_with fail
    refine c5.mono ?_
    rintro e w2 ⟨v, rfl, hO⟩
    have O : Hid (OwnB w1 w2 v F) := by show OwnB _ _ _ _; rw [HF.out]; exact hO
    clear c5 hO HF
    go_wp2
    go_ret2
    exact ⟨v, rfl, O.out⟩

end Go.Proofs.Ytofdinddloejbaa
