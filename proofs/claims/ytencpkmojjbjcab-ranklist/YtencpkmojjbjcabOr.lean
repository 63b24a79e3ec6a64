/-
  rank.checkCount, slices.Index, slices.Contains, rank.eachOnce, rank.countLess.
-/
import Derived.Test.YtencpkmojjbjcabOwn
import Derived.Test.YtencpkmojjbjcabPrm
import Derived.Shelf.Abstract
namespace Go.Proofs.Ytencpkmojjbjcab
open Go.RowKit

/-- What is told of a count of numbers. -/
def cer (n : Int) : Int := if 0 ≤ n ∧ n ≤ 8 then 0 else 1
theorem cer_ok {n : Int} (h0 : 0 ≤ n) (h1 : n ≤ 8) : cer n = 0 := if_pos ⟨h0, h1⟩
theorem cer_low {n : Int} (h0 : n < 0) : cer n = 1 := if_neg (by omega)
theorem cer_high {n : Int} (h0 : 8 < n) : cer n = 1 := if_neg (by omega)

theorem checkCount_any (n : Int) (w : World) : Calls Try.prog 13 #[.int .i64 n] w fun e w' => e = .returned (.int .i64 (cer n)) ∧ w' = w := by
  rcases Int.lt_or_le n 0 with h | h
  · rw [cer_low h]
    go_enter Try.func13, Try.ntmps13
    go_wp2
    go_ret
    exact ⟨rfl, rfl⟩
  · rcases Int.lt_or_le 8 n with h' | h'
    · rw [cer_high h']
      go_enter Try.func13, Try.ntmps13
      go_wp2
      go_ret
      exact ⟨rfl, rfl⟩
    · rw [cer_ok h h']
      go_enter Try.func13, Try.ntmps13
      go_wp2
      go_ret
      exact ⟨rfl, rfl⟩

/-- Numbers that lie one behind the other. -/
def At (w : World) (b o : Nat) (z : List Int) : Prop := ∀ i, i < z.length → w.cell? ⟨b, o + i, none⟩ = some (.int .i64 (z.getD i 0))
theorem At.ext {w w' : World} {b o : Nat} {z : List Int} (h : At w b o z) (e : Ext w w') : At w' b o z := fun i hi => e.cell (h i hi)
theorem At.drop {w : World} {b o : Nat} {z : List Int} (h : At w b o z) (k : Nat) : At w b (o + k) (z.drop k) := fun i hi => by
  rw [List.length_drop] at hi
  have := h (k + i) (by omega)
  rw [getD_drop, show o + k + i = o + (k + i) by omega]
  exact this
theorem At.take {w : World} {b o : Nat} {z : List Int} (h : At w b o z) (k : Nat) : At w b o (z.take k) := fun i hi => by
  rw [List.length_take] at hi
  rw [h i (by omega)]
  simp [List.getD_eq_getElem?_getD, show i < k by omega]

theorem mem_iff_getD {z : List Int} {v : Int} : v ∈ z ↔ ∃ i, i < z.length ∧ z.getD i 0 = v := by
  rw [List.mem_iff_getElem]
  constructor
  · rintro ⟨i, hi, h⟩
    exact ⟨i, hi, by simp [List.getD_eq_getElem?_getD, hi, h]⟩
  · rintro ⟨i, hi, h⟩
    exact ⟨i, hi, by simpa [List.getD_eq_getElem?_getD, hi] using h⟩

theorem index_any (b o n c : Nat) (z : List Int) (v : Int) (w : World) (hz : z.length = n) (hn : n ≤ maxLen) (h : At w b o z) :
    Calls Try.prog 20 #[.slice (some ⟨b, o, none⟩) n c, .int .i64 v] w fun e w' => (∃ r : Int, e = .returned (.int .i64 r) ∧ (0 ≤ r ↔ v ∈ z)) ∧ w' = w := by
  unfold maxLen at hn
  have HA : Hid (At w b o z) := h
  have hit : Hid (∀ k, k < n → z.getD k 0 = v → v ∈ z) := fun k hk e => mem_iff_getD.2 ⟨k, by omega, e⟩
  have miss : Hid ((∀ k, k < n → z.getD k 0 ≠ v) → ¬ v ∈ z) := fun hh hm => by
    obtain ⟨i, hi, e⟩ := mem_iff_getD.1 hm
    exact hh i (by omega) e
  have HZ : Hid (z.length = n) := hz
  clear h hz
  go_enter Try.func20, Try.ntmps20
  go_wp2
  go_loopg [5, 8] n (fun gg _ s wr => ∃ k : Nat, k ≤ n ∧ n - k ≤ gg ∧ s = .int .i64 k ∧ wr = w ∧ Aside (∀ i, i < k → z.getD i 0 ≠ v))
  case atStart => exact ⟨0, Nat.zero_le _, by omega, rfl, rfl, fun j hj => absurd hj (Nat.not_lt_zero _)⟩
  case round =>
    obtain ⟨k, hk, hg, rfl, rfl, A⟩ := hrel
    by_cases hlt : k < n
    · have hltz : (k : Int) < (n : Int) := by omega
      have e1 := HA.out k (by rw [HZ.out]; exact hlt)
      have ht : Hid (z.getD k 0 = v → v ∈ z) := hit.out k hlt
      have go : Hid (z.getD k 0 ≠ v → ∀ i, i < k + 1 → z.getD i 0 ≠ v) := fun h i hi => by
        rcases Nat.lt_succ_iff_lt_or_eq.1 hi with h' | rfl
        · exact A.out i h'
        · exact h
      clear hit A
      generalize z.getD k 0 = y at *
      by_cases hq : v = y
      · subst hq
        have hm := ht.out rfl
        clear ht go miss
        go_wp2
        go_ret
        refine ⟨⟨k, rfl, ⟨fun _ => hm, fun _ => by omega⟩⟩, rfl⟩
      · have hq' : (v == y) = false := by rw [beq_eq_false_iff_ne]; exact hq
        have go2 : Hid (∀ i, i < k + 1 → z.getD i 0 ≠ v) := go.out (fun e => hq e.symm)
        clear go ht
        go_wp2
        go_roundg (n - (k + 1))
        case measure => omega
        case rel => exact ⟨k + 1, by omega, by omega, by go_num, rfl, go2.out⟩
    · have hm := miss.out (fun i hi => A.out i (by omega))
      clear hit miss
      go_wp2
      go_ret
      exact ⟨⟨-1, rfl, ⟨fun h => absurd h (by omega), fun h => absurd h hm⟩⟩, rfl⟩

theorem contains_any (b o n c : Nat) (z : List Int) (v : Int) (w : World) (hz : z.length = n) (hn : n ≤ maxLen) (h : At w b o z) :
    Calls Try.prog 19 #[.slice (some ⟨b, o, none⟩) n c, .int .i64 v] w fun e w' => e = .returned (.bool (decide (v ∈ z))) ∧ w' = w := by
  have c1 := index_any b o n c z v w hz hn h
  clear h hz
  go_enter Try.func19, Try.ntmps19
  go_wp2_with fail
  refine c1.mono ?_
  rintro e w' ⟨⟨r, rfl, hr⟩, rfl⟩
  clear c1
  have hd : decide (v ∈ z) = decide (0 ≤ r) := by
    by_cases hm : v ∈ z
    · rw [decide_eq_true hm, decide_eq_true (hr.2 hm)]
    · rw [decide_eq_false hm, decide_eq_false (fun h => hm (hr.1 h))]
  have HD : Hid (decide (v ∈ z) = decide (0 ≤ r)) := hd
  clear hd hr
  go_wp2
  go_ret
  refine ⟨ret_bool ?_, rfl⟩
  rw [HD.out]

theorem eachOnce_any (a : Option Addr) (b o n c : Nat) (z : List Int) (w : World) (hz : z.length = n) (hn : n ≤ maxLen) (ha : 0 < n → a = some ⟨b, o, none⟩) (h : At w b o z) :
    Calls Try.prog 14 #[.slice a n c] w fun e w' => (∃ r : Bool, e = .returned (.bool r) ∧ (r = true ↔ Each z)) ∧ w' = w := by
  have hn' := hn
  unfold maxLen at hn
  have CT : Hid (0 < n → ∀ v : Int, Calls Try.prog 19 #[.slice a n c, .int .i64 v] w fun e w' => e = .returned (.bool (decide (v ∈ z))) ∧ w' = w) := fun h0 v => by
    rw [ha h0]
    exact contains_any b o n c z v w hz hn' h
  have yes : Hid ((∀ k : Nat, k < n → (k : Int) ∈ z) → Each z) := fun hh => each_of_all (fun k hk => hh k (by omega))
  have no : Hid (∀ k : Nat, k < n → ¬ (k : Int) ∈ z → ¬ Each z) := fun k hk hm he => hm (he.mem.2 ⟨by omega, by omega⟩)
  clear h hz ha hn'
  go_enter Try.func14, Try.ntmps14
  go_wp2
  go_loopg [3, 6] n (fun gg _ s wr => ∃ k : Nat, k ≤ n ∧ n - k ≤ gg ∧ s = .int .i64 k ∧ wr = w ∧ Aside (∀ i : Nat, i < k → (i : Int) ∈ z))
  case atStart => exact ⟨0, Nat.zero_le _, by omega, rfl, rfl, fun j hj => absurd hj (Nat.not_lt_zero _)⟩
  case round =>
    obtain ⟨k, hk, hg, rfl, rfl, A⟩ := hrel
    by_cases hlt : k < n
    · have hltz : (k : Int) < (n : Int) := by omega
      have c1 := CT.out (by omega) (k : Int)
      have nk : Hid (¬ (k : Int) ∈ z → ¬ Each z) := no.out k hlt
      have go : Hid ((k : Int) ∈ z → ∀ i : Nat, i < k + 1 → (i : Int) ∈ z) := fun h i hi => by
        rcases Nat.lt_succ_iff_lt_or_eq.1 hi with h' | rfl
        · exact A.out i h'
        · exact h
      clear A no
      by_cases hq : (k : Int) ∈ z
      · rw [decide_eq_true hq] at c1
        have go2 : Hid (∀ i : Nat, i < k + 1 → (i : Int) ∈ z) := go.out hq
        clear go nk
        go_wp2_with fail
        refine c1.mono ?_
        rintro e w' ⟨rfl, rfl⟩
        clear c1
        go_wp2
        go_roundg (n - (k + 1))
        case measure => omega
        case rel => exact ⟨k + 1, by omega, by omega, by go_num, rfl, go2.out⟩
      · rw [decide_eq_false hq] at c1
        have ne := nk.out hq
        clear go nk
        go_wp2_with fail
        refine c1.mono ?_
        rintro e w' ⟨rfl, rfl⟩
        clear c1
        go_wp2
        go_ret
        exact ⟨⟨false, rfl, ⟨fun h => absurd h (by decide), fun h => absurd h ne⟩⟩, rfl⟩
    · have he := yes.out (fun i hi => A.out i (by omega))
      clear yes no
      go_wp2
      go_ret
      exact ⟨⟨true, rfl, ⟨fun _ => he, fun _ => rfl⟩⟩, rfl⟩

theorem lss_take (v : Int) (z : List Int) (k : Nat) (hk : k < z.length) : lss v (z.take (k + 1)) = lss v (z.take k) + (if z.getD k 0 < v then 1 else 0) := by
  rw [List.take_succ_eq_append_getElem hk, lss_append, lss_cons, lss_nil]
  simp [List.getD_eq_getElem?_getD, hk]

theorem countLess_any (b o n c : Nat) (z : List Int) (v : Int) (w : World) (hz : z.length = n) (hn : n ≤ maxLen) (h : At w b o z) :
    Calls Try.prog 15 #[.slice (some ⟨b, o, none⟩) n c, .int .i64 v] w fun e w' => e = .returned (.int .i64 (lss v z : Nat)) ∧ w' = w := by
  unfold maxLen at hn
  have HA : Hid (At w b o z) := h
  have NX : Hid (∀ k, k < n → lss v (z.take (k + 1)) = lss v (z.take k) + (if z.getD k 0 < v then 1 else 0)) := fun k hk => lss_take v z k (by omega)
  have FN : Hid (z.take n = z) := List.take_of_length_le (by omega)
  have HZ : Hid (z.length = n) := hz
  clear h hz
  go_enter Try.func15, Try.ntmps15
  go_wp2
  go_loopg [5, 7, 10] n (fun gg s5 _ s wr => ∃ k : Nat, k ≤ n ∧ n - k ≤ gg ∧ s5 = .int .i64 (lss v (z.take k) : Nat) ∧ s = .int .i64 k ∧ wr = w)
  case atStart => exact ⟨0, Nat.zero_le _, by omega, rfl, rfl, rfl⟩
  case round =>
    obtain ⟨k, hk, hg, rfl, rfl, rfl⟩ := hrel
    by_cases hlt : k < n
    · have hltz : (k : Int) < (n : Int) := by omega
      have e1 := HA.out k (by rw [HZ.out]; exact hlt)
      have nx := NX.out k hlt
      have few : lss v (z.take k) ≤ k := Nat.le_trans (lss_le _ _) (by rw [List.length_take]; omega)
      generalize lss v (z.take k) = A at *
      generalize z.getD k 0 = y at *
      have HN : Hid (lss v (z.take (k + 1)) = A + (if y < v then 1 else 0)) := nx
      clear nx
      by_cases hq : y < v
      · rw [if_pos hq] at HN
        go_wp2
        go_roundg (n - (k + 1))
        case measure => omega
        case rel => exact ⟨k + 1, by omega, by omega, by rw [HN.out]; rfl, by go_num, rfl⟩
      · rw [if_neg hq] at HN
        go_wp2
        go_roundg (n - (k + 1))
        case measure => omega
        case rel => exact ⟨k + 1, by omega, by omega, by rw [HN.out]; rfl, by go_num, rfl⟩
    · have hk' : k = n := by omega
      subst hk'
      rw [FN.out]
      clear NX
      go_wp2
      go_ret
      exact ⟨rfl, rfl⟩

theorem order_large (a : Option Addr) (n c : Nat) (w : World) (hn : n ≤ maxLen) (h8 : 8 < n) : Calls Try.prog 7 #[.slice a n c] w fun e w' => e = .returned (.tuple #[.int .i64 0, .int .i64 1]) ∧ w' = w := by
  unfold maxLen at hn
  have c0 := checkCount_any n w
  rw [cer_high (by omega)] at c0
  go_enter Try.func7, Try.ntmps7
  go_wp2_with fail
  refine c0.mono ?_
  rintro e w' ⟨rfl, rfl⟩
  go_wp2
  go_ret2
  exact ⟨rfl, rfl⟩

theorem order_none (a : Option Addr) (b o n c : Nat) (z : List Int) (w : World) (hz : z.length = n) (hn : n ≤ 8) (ha : 0 < n → a = some ⟨b, o, none⟩) (h : At w b o z) (hE : ¬ Each z) : Calls Try.prog 7 #[.slice a n c] w fun e w' => e = .returned (.tuple #[.int .i64 0, .int .i64 3]) ∧ w' = w := by
  have c0 := checkCount_any n w
  rw [cer_ok (by omega) (by omega)] at c0
  have c1 := eachOnce_any a b o n c z w hz (by unfold maxLen; omega) ha h
  clear h hz ha
  go_enter Try.func7, Try.ntmps7
  go_wp2_with fail
  refine c0.mono ?_
  rintro e w' ⟨rfl, rfl⟩
  clear c0
  go_wp2_with fail
  refine c1.mono ?_
  rintro e w' ⟨⟨r, rfl, hr⟩, rfl⟩
  clear c1
  have hr' : r = false := by
    cases r
    · rfl
    · exact absurd (hr.1 rfl) hE
  subst hr'
  clear hr
  go_wp2
  go_ret2
  exact ⟨rfl, rfl⟩

theorem hr_ge (a : Nat) (l : List Int) : a ≤ hr a l := by
  rw [hr_od]
  have := Nat.mul_le_mul_left a (fc_pos l.length)
  omega

theorem order_step (z : List Int) (k acc R : Nat) (hk : k < z.length) (h : hr acc (z.drop k) = R) : hr (acc * (z.length - k) + lss (z.getD k 0) (z.drop k)) (z.drop (k + 1)) = R := by
  have e : z.drop k = z.getD k 0 :: z.drop (k + 1) := by
    rw [List.drop_eq_getElem_cons hk]
    simp [List.getD_eq_getElem?_getD, hk]
  have h2 := h
  rw [e] at h2
  have e2 : hr acc (z.getD k 0 :: z.drop (k + 1)) = hr (acc * ((z.drop (k + 1)).length + 1) + lss (z.getD k 0) (z.getD k 0 :: z.drop (k + 1))) (z.drop (k + 1)) := rfl
  rw [e2, List.length_drop, ← e, show z.length - (k + 1) + 1 = z.length - k by omega] at h2
  exact h2

theorem order_good (a : Option Addr) (b o n c : Nat) (z : List Int) (w : World) (hz : z.length = n) (hn : n ≤ 8) (hc : n ≤ c) (hcm : c ≤ maxLen) (ha : 0 < n → a = some ⟨b, o, none⟩) (h : At w b o z) (hE : Each z) : Calls Try.prog 7 #[.slice a n c] w fun e w' => e = .returned (.tuple #[.int .i64 (od z : Nat), .int .i64 0]) ∧ w' = w := by
  have c0 := checkCount_any n w
  rw [cer_ok (by omega) (by omega)] at c0
  have c1 := eachOnce_any a b o n c z w hz (by unfold maxLen; omega) ha h
  have HA : Hid (At w b o z) := h
  have HZ : Hid (z.length = n) := hz
  have HH : Hid (0 < n → a = some ⟨b, o, none⟩) := ha
  have CL : Hid (∀ k, k < n → Calls Try.prog 15 #[.slice (some ⟨b, o + k, none⟩) (n - k) (c - k), .int .i64 (z.getD k 0)] w fun e w' => e = .returned (.int .i64 (lss (z.getD k 0) (z.drop k) : Nat)) ∧ w' = w) := fun k hk =>
    countLess_any b (o + k) (n - k) (c - k) (z.drop k) (z.getD k 0) w (by rw [List.length_drop]; omega) (by unfold maxLen; omega) (h.drop k)
  have few : od z ≤ 40320 := by
    have := od_lt z
    have := fc_few' (n := z.length) (by omega)
    omega
  have A0 : Hid (hr 0 (z.drop 0) = od z) := by show _ = _; rw [List.drop_zero, hr_od]; omega
  obtain ⟨R, hR⟩ : ∃ R, od z = R := ⟨_, rfl⟩
  rw [hR] at A0 few ⊢
  have STEP : Hid (∀ k acc, k < n → hr acc (z.drop k) = R → hr (acc * (n - k) + lss (z.getD k 0) (z.drop k)) (z.drop (k + 1)) = R ∧ acc ≤ R ∧ acc * (n - k) + lss (z.getD k 0) (z.drop k) ≤ R) := fun k acc hk hh => by
    have s := order_step z k acc R (by omega) hh
    rw [hz] at s
    exact ⟨s, by rw [← hh]; exact hr_ge _ _, by have := hr_ge (acc * (n - k) + lss (z.getD k 0) (z.drop k)) (z.drop (k + 1)); omega⟩
  have FIN : Hid (∀ acc, hr acc (z.drop n) = R → acc = R) := fun acc hh => by
    rw [List.drop_of_length_le (by omega)] at hh
    exact hh
  clear h hz ha hR
  unfold maxLen at hcm
  go_enter Try.func7, Try.ntmps7
  go_wp2_with fail
  refine c0.mono ?_
  rintro e w' ⟨rfl, rfl⟩
  clear c0
  go_wp2_with fail
  refine c1.mono ?_
  rintro e w' ⟨⟨r, rfl, hr⟩, rfl⟩
  clear c1
  have hr' : r = true := hr.2 hE
  subst hr'
  clear hr
  go_wp2
  go_loopg [5, 6, 7, 8, 20] n (fun gg s5 _ _ _ s wr => ∃ k acc : Nat, k ≤ n ∧ n - k ≤ gg ∧ s5 = .int .i64 acc ∧ s = .int .i64 k ∧ wr = w' ∧ Aside (hr acc (z.drop k) = R))
  case atStart => exact ⟨0, 0, Nat.zero_le _, by omega, rfl, rfl, rfl, A0.out⟩
  case round =>
    obtain ⟨k, acc, hk, hg, rfl, rfl, rfl, A⟩ := hrel
    by_cases hlt : k < n
    · have hltz : (k : Int) < (n : Int) := by omega
      obtain rfl := HH.out (by omega)
      have e1 := HA.out k (by rw [HZ.out]; exact hlt)
      have c2 := CL.out k hlt
      obtain ⟨s1, s2, s3⟩ := STEP.out k acc hlt A.out
      have S1 : Hid _ := s1
      clear A s1 STEP FIN CL HH
      generalize lss (z.getD k 0) (z.drop k) = L at *
      generalize z.getD k 0 = y at *
      obtain ⟨P, hP⟩ : ∃ P, acc * (n - k) = P := ⟨_, rfl⟩
      have hPz : (acc : Int) * ((n - k : Nat) : Int) = P := by
        rw [← hP, Int.natCast_mul]
      rw [hP] at s3 S1
      clear hP
      go_wp2_with fail
      refine c2.mono ?_
      rintro e w3 ⟨rfl, rfl⟩
      clear c2
      go_wp2
      go_roundg (n - (k + 1))
      case measure => omega
      case rel => exact ⟨k + 1, P + L, by omega, by omega, by go_num, by go_num, rfl, S1.out⟩
    · have hk' : k = n := by omega
      subst hk'
      have e := FIN.out acc A.out
      subst e
      clear STEP FIN CL A0 HA
      go_wp2
      go_ret2
      exact ⟨rfl, rfl⟩
end Go.Proofs.Ytencpkmojjbjcab
