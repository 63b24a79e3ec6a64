/-
  state.sumParts, state.checkBoth, state.firstOf, quipuref.PartsCheck, quipukeep.parted.
-/
import Derived.Test.YtchnlbanhkigjaaAt
namespace Go.Proofs.Ytchnlbanhkigjaa
open Go.RowKit

instance (z : List Int) : Decidable (Prt z) := inferInstanceAs (Decidable ((∀ k ∈ z, 0 ≤ k) ∧ 1 ≤ z.sum ∧ z.sum ≤ 16))

/-- What is told of parts: the error, and the total. -/
def per (z : List Int) : Int := if z.length ≤ 8 then (if Prt z then 0 else 4) else 1
def psv (z : List Int) : Int := if per z = 0 then z.sum else 0
theorem per_large {z : List Int} (h : 8 < z.length) : per z = 1 := if_neg (by omega)
theorem per_good {z : List Int} (h : z.length ≤ 8) (hp : Prt z) : per z = 0 := by unfold per; rw [if_pos h, if_pos hp]
theorem per_bad {z : List Int} (h : z.length ≤ 8) (hp : ¬ Prt z) : per z = 4 := by unfold per; rw [if_pos h, if_neg hp]
theorem per_ok {z : List Int} (h : per z = 0) : z.length ≤ 8 ∧ Prt z := by
  unfold per at h
  split at h
  · rename_i h1
    split at h
    · rename_i h2
      exact ⟨h1, h2⟩
    · exact absurd h (by decide)
  · exact absurd h (by decide)
theorem psv_good {z : List Int} (h : per z = 0) : psv z = z.sum := if_pos h
theorem psv_bad {z : List Int} (h : per z ≠ 0) : psv z = 0 := if_neg h

/-- What is told of parts and a number: the error, and the total. -/
def pxe (z : List Int) (x : Int) : Int := if per z = 0 then (if 0 ≤ x ∧ x ≤ 1099511627776 then 0 else 4) else per z
def pxv (z : List Int) (x : Int) : Int := if pxe z x = 0 then z.sum else 0

theorem ret_two {a b c d : Int} (h : a = c) (h' : b = d) : Ending.returned (.tuple #[.int .i64 a, .int .i64 b]) = .returned (.tuple #[.int .i64 c, .int .i64 d]) := by rw [h, h']

theorem sum_large (a : Option Addr) (n c : Nat) (w : World) (hn : n ≤ maxLen) (h8 : 8 < n) : Calls Try.prog 22 #[.slice a n c] w fun e w' => e = .returned (.tuple #[.int .i64 0, .int .i64 1]) ∧ w' = w := by
  unfold maxLen at hn
  go_enter Try.func22, Try.ntmps22
  go_wp2
  go_ret2
  exact ⟨rfl, rfl⟩

theorem sum_small (a : Option Addr) (b o n c : Nat) (z : List Int) (w : World) (hz : z.length = n) (hn : n ≤ 8) (ha : 0 < n → a = some ⟨b, o, none⟩) (h : At w b o z) :
    Calls Try.prog 22 #[.slice a n c] w fun e w' => e = .returned (.tuple #[.int .i64 (psv z), .int .i64 (per z)]) ∧ w' = w := by
  have HA : Hid (∀ i, i < n → w.cell? ⟨b, o + i, none⟩ = some (.int .i64 (z.getD i 0))) := fun i hi => h i (by omega)
  have HH : Hid (0 < n → a = some ⟨b, o, none⟩) := ha
  have NX : Hid (∀ i, i < n → (z.take (i + 1)).sum = (z.take i).sum + z.getD i 0) := fun i hi => sum_take_succ z i (by omega)
  have LOW : Hid (∀ i, i < n → z.getD i 0 < 0 → ¬ Prt z) := fun i hi => prt_low (by omega)
  have HIGH : Hid (∀ i, i < n → 16 - (z.take i).sum < z.getD i 0 → ¬ Prt z) := fun i hi => prt_high (by omega)
  have ALL : Hid ((∀ i, i < n → 0 ≤ z.getD i 0) → 1 ≤ z.sum → z.sum ≤ 16 → Prt z) := fun h1 h2 h3 => ⟨all_nonneg (fun i hi => h1 i (by omega)), h2, h3⟩
  have FEW : Hid (z.sum < 1 → ¬ Prt z) := fun h1 h2 => by have := h2.2.1; omega
  have FN : Hid (z.take n = z) := List.take_of_length_le (by omega)
  have BAD : Hid (¬ Prt z → psv z = 0 ∧ per z = 4) := fun hp => by
    have e := per_bad (by omega) hp
    exact ⟨psv_bad (by rw [e]; decide), e⟩
  have GOOD : Hid (Prt z → psv z = z.sum ∧ per z = 0) := fun hp => by
    have e := per_good (by omega) hp
    exact ⟨psv_good e, e⟩
  generalize psv z = V at *
  generalize per z = E at *
  clear h hz ha
  go_enter Try.func22, Try.ntmps22
  go_wp2
  go_loopg [4, 6, 12] n (fun gg s4 _ s wr => ∃ (k : Nat) (t : Int), k ≤ n ∧ n - k ≤ gg ∧ 0 ≤ t ∧ t ≤ 16 ∧ s4 = .int .i64 t ∧ s = .int .i64 k ∧ wr = w ∧ Aside ((z.take k).sum = t) ∧ Aside (∀ i, i < k → 0 ≤ z.getD i 0))
  case atStart => exact ⟨0, 0, Nat.zero_le _, by omega, by omega, by omega, rfl, rfl, rfl, (by simp : (z.take 0).sum = 0), fun j hj => absurd hj (Nat.not_lt_zero _)⟩
  case round =>
    obtain ⟨k, t, hk, hg, ht0, ht1, rfl, rfl, rfl, T, A⟩ := hrel
    by_cases hlt : k < n
    · have hltz : (k : Int) < (n : Int) := by omega
      obtain rfl := HH.out (by omega)
      have e1 := HA.out k hlt
      have nx := NX.out k hlt
      have low := LOW.out k hlt
      have high := HIGH.out k hlt
      rw [T.out] at nx high
      have go : Hid (0 ≤ z.getD k 0 → ∀ i, i < k + 1 → 0 ≤ z.getD i 0) := fun h i hi => by
        rcases Nat.lt_succ_iff_lt_or_eq.1 hi with h' | rfl
        · exact A.out i h'
        · exact h
      generalize z.getD k 0 = y at *
      have HN : Hid ((z.take (k + 1)).sum = t + y) := nx
      have HL : Hid (y < 0 → ¬ Prt z) := low
      have HI : Hid (16 - t < y → ¬ Prt z) := high
      clear nx low high T A HA HH NX LOW HIGH ALL FEW FN GOOD
      by_cases hy : y < 0
      · obtain ⟨q1, q2⟩ := BAD.out (HL.out hy)
        have Q1 : Hid _ := q1
        have Q2 : Hid _ := q2
        clear q1 q2
        clear BAD HL HI go HN
        go_wp2
        go_ret2
        exact ⟨ret_two Q1.out.symm Q2.out.symm, rfl⟩
      · by_cases hy2 : 16 - t < y
        · obtain ⟨q1, q2⟩ := BAD.out (HI.out hy2)
          have Q1 : Hid _ := q1
          have Q2 : Hid _ := q2
          clear q1 q2
          clear BAD HL HI go HN
          go_wp2
          go_ret2
          exact ⟨ret_two Q1.out.symm Q2.out.symm, rfl⟩
        · have go2 : Hid (∀ i, i < k + 1 → 0 ≤ z.getD i 0) := go.out (by omega)
          clear BAD HL HI go
          go_wp2
          go_roundg (n - (k + 1))
          case measure => omega
          case rel => exact ⟨k + 1, t + y, by omega, by omega, by omega, by omega, rfl, by go_num, rfl, HN.out, go2.out⟩
    · have hk' : k = n := by omega
      subst hk'
      have T2 := T.out
      rw [FN.out] at T2
      by_cases h1 : t < 1
      · obtain ⟨q1, q2⟩ := BAD.out (FEW.out (by omega))
        have Q1 : Hid _ := q1
        have Q2 : Hid _ := q2
        clear q1 q2
        clear T T2 A HA HH NX LOW HIGH ALL FEW FN GOOD BAD
        go_wp2
        go_ret2
        exact ⟨ret_two Q1.out.symm Q2.out.symm, rfl⟩
      · obtain ⟨q1, q2⟩ := GOOD.out (ALL.out A.out (by omega) (by omega))
        rw [T2] at q1
        have Q1 : Hid _ := q1
        have Q2 : Hid _ := q2
        clear q1 q2
        clear T T2 A HA HH NX LOW HIGH ALL FEW FN GOOD BAD
        go_wp2
        go_ret2
        exact ⟨ret_two Q1.out.symm Q2.out.symm, rfl⟩

theorem sum_any (x : Nm) (w : World) (hx : Nums w x) : Calls Try.prog 22 #[x.v] w fun e w' => e = .returned (.tuple #[.int .i64 (psv x.z), .int .i64 (per x.z)]) ∧ w' = w := by
  obtain ⟨h1, h2, h0, b, o, h3, h4⟩ := hx
  by_cases h8 : x.z.length ≤ 8
  · exact sum_small x.a b o x.z.length x.c x.z w rfl h8 h3 h4
  · have e := per_large (z := x.z) (by omega)
    rw [psv_bad (by rw [e]; decide), e]
    exact sum_large x.a x.z.length x.c w (by omega) (by omega)

theorem checkBoth_any (p : Nm) (x : Int) (w : World) (hp : Nums w p) : Calls Try.prog 18 #[p.v, .int .i64 x] w fun e w' => e = .returned (.tuple #[.int .i64 (pxv p.z x), .int .i64 (pxe p.z x)]) ∧ w' = w := by
  have c1 := sum_any p w hp
  by_cases h : per p.z = 0
  · by_cases hx : 0 ≤ x ∧ x ≤ 1099511627776
    · have e : pxe p.z x = 0 := by unfold pxe; rw [if_pos h, if_pos hx]
      have e2 : pxv p.z x = p.z.sum := if_pos e
      rw [e, e2]
      rw [h, psv_good h] at c1
      obtain ⟨x1, x2⟩ := hx
      have hs := (per_ok h).2.2
      generalize p.v = v at *
      generalize p.z.sum = S at *
      clear h e e2 hp
      go_enter Try.func18, Try.ntmps18
      go_wp2_with fail
      refine c1.mono ?_
      rintro e w' ⟨rfl, rfl⟩
      clear c1
      go_wp2
      go_ret2
      exact ⟨rfl, rfl⟩
    · have e : pxe p.z x = 4 := by unfold pxe; rw [if_pos h, if_neg hx]
      have e2 : pxv p.z x = 0 := if_neg (by rw [e]; decide)
      rw [e, e2]
      rw [h, psv_good h] at c1
      have hs := (per_ok h).2.2
      generalize p.v = v at *
      generalize p.z.sum = S at *
      clear h e e2 hp
      rcases Int.lt_or_le x 0 with h1 | h1
      · clear hx
        go_enter Try.func18, Try.ntmps18
        go_wp2_with fail
        refine c1.mono ?_
        rintro e w' ⟨rfl, rfl⟩
        clear c1
        go_wp2
        go_ret2
        exact ⟨rfl, rfl⟩
      · have h2 : 1099511627776 < x := by omega
        clear hx
        go_enter Try.func18, Try.ntmps18
        go_wp2_with fail
        refine c1.mono ?_
        rintro e w' ⟨rfl, rfl⟩
        clear c1
        go_wp2
        go_ret2
        exact ⟨rfl, rfl⟩
  · have e : pxe p.z x = per p.z := if_neg h
    have e2 : pxv p.z x = 0 := if_neg (by rw [e]; exact h)
    rw [e, e2]
    rw [psv_bad h] at c1
    generalize p.v = v at *
    generalize per p.z = E at *
    have hE : (E != 0) = true := by simpa using h
    clear h e e2 hp
    go_enter Try.func18, Try.ntmps18
    go_wp2_with fail
    refine c1.mono ?_
    rintro e w' ⟨rfl, rfl⟩
    clear c1
    go_wp2
    go_ret2
    exact ⟨rfl, rfl⟩

end Go.Proofs.Ytchnlbanhkigjaa
