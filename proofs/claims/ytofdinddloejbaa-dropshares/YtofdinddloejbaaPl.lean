/-
  Sums of places: quipuref.Places, drop.places; drop.count, drop.check, drop.Sum.
-/
import Derived.Test.YtofdinddloejbaaChecked
import Derived.Test.YtofdinddloejbaaDr
namespace Go.Proofs.Ytofdinddloejbaa
open Go.RowKit
set_option linter.unusedVariables false

set_option maxHeartbeats 1000000 in
theorem refPlaces_any (x : Wd) (hl : x.l.length ≤ 1000) (w : World) (hx : Bits w x) : Calls Try.prog 10 #[x.v] w fun e w' => e = .returned (.int .i64 (sm x.l : Nat)) ∧ w' = w := by
  obtain ⟨a, c, l⟩ := x
  obtain ⟨h1, h2, _, b, o, h4, h5⟩ := hx
  simp only at h1 h2 h4 h5 hl ⊢
  simp only [Wd.v]
  obtain ⟨S, hS⟩ : ∃ S : Nat → Nat, ∀ k, S k = ps 0 (l.take k) := ⟨_, fun _ => rfl⟩
  obtain ⟨B, hB⟩ : ∃ B : Nat → Bool, ∀ k, B k = l.getD k false := ⟨_, fun _ => rfl⟩
  have HC : Hid (∀ i, i < l.length → w.cell? ⟨b, o + i, none⟩ = some (.bool (B i))) := fun i hi => by rw [hB]; exact h5 i hi
  have NX : Hid (∀ k, k < l.length → S (k + 1) = S k + (if B k then k + 1 else 0)) := fun k h => by rw [hS, hS, hB]; exact ps_take h
  have HM : Hid (∀ k, S k ≤ 1000000) := fun k => by
    have h1 := ps_take_le l k
    have h2 := ps_le l 0
    have h3 : (0 + l.length) * l.length ≤ 1000 * 1000 := Nat.mul_le_mul (by omega) hl
    rw [hS]
    omega
  have Z0 : Hid (S 0 = 0) := by show _ = _; rw [hS]; rfl
  have SM : Hid (sm l = S l.length % (l.length + 1)) := by show _ = _; rw [hS, List.take_length]; rfl
  clear h5 hS hB
  generalize sm l = R at *
  generalize l.length = m at *
  unfold maxLen at h2
  go_enter Try.func10, Try.ntmps10
  go_wp2
  go_loopg [3, 4, 5, 8] m (fun gg s3 _ _ s8 wr => wr = w ∧ ∃ k : Nat, k ≤ m ∧ m - k ≤ gg ∧ s8 = .int .i64 k ∧ s3 = .int .i64 (S k : Nat))
  case atStart => exact ⟨rfl, 0, Nat.zero_le _, by omega, rfl, by rw [Z0.out]; rfl⟩
  case round =>
    obtain ⟨rfl, k, hk, hgg, rfl, rfl⟩ := hrel
    have hm := HM.out k
    by_cases hlt : k < m
    · have hltz : (k : Int) < (m : Int) := by omega
      obtain rfl := h4 (by omega)
      have e1 := HC.out k hlt
      have nx := NX.out k hlt
      clear HC NX Z0 SM h4 HM
      generalize S k = u at *
      cases hy : B k
      · rw [hy] at nx e1
        simp only [Bool.false_eq_true, if_false] at nx
        clear hy
        go_wp2
        go_roundg (m - (k + 1))
        case measure => omega
        case rel => exact ⟨rfl, k + 1, by omega, by omega, by go_num, by rw [nx]; rfl⟩
      · rw [hy] at nx e1
        simp only [if_true] at nx
        clear hy
        go_wp2
        go_roundg (m - (k + 1))
        case measure => omega
        case rel => exact ⟨rfl, k + 1, by omega, by omega, by go_num, by rw [nx]; go_num⟩
    · obtain rfl : k = m := by omega
      have hltz : ¬ (k : Int) < (k : Int) := by omega
      clear HC NX Z0 HM
      go_wp2
      go_ret
      exact ⟨by rw [SM.out]; rfl, rfl⟩

set_option maxHeartbeats 1000000 in
theorem places_any (x : Wd) (hl : x.l.length ≤ 1000) (w : World) (hx : Bits w x) : Calls Try.prog 20 #[x.v] w fun e w' => e = .returned (.int .i64 (ps 0 x.l : Nat)) ∧ w' = w := by
  obtain ⟨a, c, l⟩ := x
  obtain ⟨h1, h2, _, b, o, h4, h5⟩ := hx
  simp only at h1 h2 h4 h5 hl ⊢
  simp only [Wd.v]
  obtain ⟨S, hS⟩ : ∃ S : Nat → Nat, ∀ k, S k = ps 0 (l.take k) := ⟨_, fun _ => rfl⟩
  obtain ⟨B, hB⟩ : ∃ B : Nat → Bool, ∀ k, B k = l.getD k false := ⟨_, fun _ => rfl⟩
  have HC : Hid (∀ i, i < l.length → w.cell? ⟨b, o + i, none⟩ = some (.bool (B i))) := fun i hi => by rw [hB]; exact h5 i hi
  have NX : Hid (∀ k, k < l.length → S (k + 1) = S k + (if B k then k + 1 else 0)) := fun k h => by rw [hS, hS, hB]; exact ps_take h
  have HM : Hid (∀ k, S k ≤ 1000000) := fun k => by
    have h1 := ps_take_le l k
    have h2 := ps_le l 0
    have h3 : (0 + l.length) * l.length ≤ 1000 * 1000 := Nat.mul_le_mul (by omega) hl
    rw [hS]
    omega
  have Z0 : Hid (S 0 = 0) := by show _ = _; rw [hS]; rfl
  have SM : Hid (ps 0 l = S l.length) := by show _ = _; rw [hS, List.take_length]
  clear h5 hS hB
  generalize ps 0 l = R at *
  generalize l.length = m at *
  unfold maxLen at h2
  go_enter Try.func20, Try.ntmps20
  go_wp2
  go_loopg [3, 4, 5, 8] m (fun gg s3 _ _ s8 wr => wr = w ∧ ∃ k : Nat, k ≤ m ∧ m - k ≤ gg ∧ s8 = .int .i64 k ∧ s3 = .int .i64 (S k : Nat))
  case atStart => exact ⟨rfl, 0, Nat.zero_le _, by omega, rfl, by rw [Z0.out]; rfl⟩
  case round =>
    obtain ⟨rfl, k, hk, hgg, rfl, rfl⟩ := hrel
    have hm := HM.out k
    by_cases hlt : k < m
    · have hltz : (k : Int) < (m : Int) := by omega
      obtain rfl := h4 (by omega)
      have e1 := HC.out k hlt
      have nx := NX.out k hlt
      clear HC NX Z0 SM h4 HM
      generalize S k = u at *
      cases hy : B k
      · rw [hy] at nx e1
        simp only [Bool.false_eq_true, if_false] at nx
        clear hy
        go_wp2
        go_roundg (m - (k + 1))
        case measure => omega
        case rel => exact ⟨rfl, k + 1, by omega, by omega, by go_num, by rw [nx]; rfl⟩
      · rw [hy] at nx e1
        simp only [if_true] at nx
        clear hy
        go_wp2
        go_roundg (m - (k + 1))
        case measure => omega
        case rel => exact ⟨rfl, k + 1, by omega, by omega, by go_num, by rw [nx]; go_num⟩
    · obtain rfl : k = m := by omega
      have hltz : ¬ (k : Int) < (k : Int) := by omega
      clear HC NX Z0 HM
      go_wp2
      go_ret
      exact ⟨by rw [SM.out]; rfl, rfl⟩

set_option maxHeartbeats 1000000 in
theorem count_any (x : Wd) (w : World) (hx : Bits w x) : Calls Try.prog 24 #[x.v] w fun e w' => e = .returned (.int .i64 (ct x.l : Nat)) ∧ w' = w := by
  obtain ⟨a, c, l⟩ := x
  obtain ⟨h1, h2, _, b, o, h4, h5⟩ := hx
  simp only at h1 h2 h4 h5 ⊢
  simp only [Wd.v]
  obtain ⟨S, hS⟩ : ∃ S : Nat → Nat, ∀ k, S k = ct (l.take k) := ⟨_, fun _ => rfl⟩
  obtain ⟨B, hB⟩ : ∃ B : Nat → Bool, ∀ k, B k = l.getD k false := ⟨_, fun _ => rfl⟩
  have HC : Hid (∀ i, i < l.length → w.cell? ⟨b, o + i, none⟩ = some (.bool (B i))) := fun i hi => by rw [hB]; exact h5 i hi
  have NX : Hid (∀ k, k < l.length → S (k + 1) = S k + (if B k then 1 else 0)) := fun k h => by rw [hS, hS, hB]; exact ct_take h
  have HM : Hid (∀ k, S k ≤ k) := fun k => by
    have h1 := ct_le (l.take k)
    rw [List.length_take] at h1
    rw [hS]
    omega
  have Z0 : Hid (S 0 = 0) := by show _ = _; rw [hS]; rfl
  have SM : Hid (ct l = S l.length) := by show _ = _; rw [hS, List.take_length]
  clear h5 hS hB
  generalize ct l = R at *
  generalize l.length = m at *
  unfold maxLen at h2
  go_enter Try.func24, Try.ntmps24
  go_wp2
  go_loopg [3, 5, 8] m (fun gg s3 _ s8 wr => wr = w ∧ ∃ k : Nat, k ≤ m ∧ m - k ≤ gg ∧ s8 = .int .i64 k ∧ s3 = .int .i64 (S k : Nat))
  case atStart => exact ⟨rfl, 0, Nat.zero_le _, by omega, rfl, by rw [Z0.out]; rfl⟩
  case round =>
    obtain ⟨rfl, k, hk, hgg, rfl, rfl⟩ := hrel
    have hm := HM.out k
    by_cases hlt : k < m
    · have hltz : (k : Int) < (m : Int) := by omega
      obtain rfl := h4 (by omega)
      have e1 := HC.out k hlt
      have nx := NX.out k hlt
      clear HC NX Z0 SM h4 HM
      generalize S k = u at *
      cases hy : B k
      · rw [hy] at nx e1
        simp only [Bool.false_eq_true, if_false] at nx
        clear hy
        go_wp2
        go_roundg (m - (k + 1))
        case measure => omega
        case rel => exact ⟨rfl, k + 1, by omega, by omega, by go_num, by rw [nx]; rfl⟩
      · rw [hy] at nx e1
        simp only [if_true] at nx
        clear hy
        go_wp2
        go_roundg (m - (k + 1))
        case measure => omega
        case rel => exact ⟨rfl, k + 1, by omega, by omega, by go_num, by rw [nx]; go_num⟩
    · obtain rfl : k = m := by omega
      have hltz : ¬ (k : Int) < (k : Int) := by omega
      clear HC NX Z0 HM
      go_wp2
      go_ret
      exact ⟨by rw [SM.out]; rfl, rfl⟩

/-- What is wrong with a count of bits and a sum. -/
def dce (n a : Int) : Int := if n < 0 ∨ 12 < n then 1 else if a < 0 ∨ n < a then 4 else 0
theorem dce_cases (n a : Int) : (dce n a = 1 ∧ (n < 0 ∨ 12 < n)) ∨ (dce n a = 4 ∧ 0 ≤ n ∧ n ≤ 12 ∧ (a < 0 ∨ n < a)) ∨ (dce n a = 0 ∧ 0 ≤ n ∧ n ≤ 12 ∧ 0 ≤ a ∧ a ≤ n) := by
  unfold dce
  split
  · exact .inl ⟨rfl, by assumption⟩
  · split
    · exact .inr (.inl ⟨rfl, by omega, by omega, by assumption⟩)
    · exact .inr (.inr ⟨rfl, by omega, by omega, by omega, by omega⟩)

theorem check_any (n a : Int) (w : World) : Calls Try.prog 21 #[.int .i64 n, .int .i64 a] w fun e w' => e = .returned (.int .i64 (dce n a)) ∧ w' = w := by
  rcases dce_cases n a with ⟨h, h1 | h1⟩ | ⟨h, h1, h2, h3 | h3⟩ | ⟨h, h1, h2, h3, h4⟩
  all_goals rw [h]; clear h
  · go_enter Try.func21, Try.ntmps21
    go_wp2
    go_ret
    exact ⟨rfl, rfl⟩
  · have h0 : ¬ n < 0 := by omega
    go_enter Try.func21, Try.ntmps21
    go_wp2
    go_ret
    exact ⟨rfl, rfl⟩
  · have h0 : ¬ n < 0 := by omega
    have h0' : ¬ 12 < n := by omega
    go_enter Try.func21, Try.ntmps21
    go_wp2
    go_ret
    exact ⟨rfl, rfl⟩
  · have h0 : ¬ n < 0 := by omega
    have h0' : ¬ 12 < n := by omega
    have h0'' : ¬ a < 0 := by omega
    go_enter Try.func21, Try.ntmps21
    go_wp2
    go_ret
    exact ⟨rfl, rfl⟩
  · have h0 : ¬ n < 0 := by omega
    have h0' : ¬ 12 < n := by omega
    have h0'' : ¬ a < 0 := by omega
    have h0x : ¬ n < a := by omega
    go_enter Try.func21, Try.ntmps21
    go_wp2
    go_ret
    exact ⟨rfl, rfl⟩

theorem Sum_large (x : Wd) (hl : 12 < x.l.length) (w : World) : Calls Try.prog 9 #[x.v] w fun e w' => e = .returned (.tuple #[.int .i64 0, .int .i64 1]) ∧ w' = w := by
  simp only [Wd.v]
  have hz : (12 : Int) < (x.l.length : Int) := by omega
  generalize x.l.length = n at *
  clear hl
  go_enter Try.func9, Try.ntmps9
  go_wp2
  go_ret2
  exact ⟨rfl, rfl⟩
theorem Sum_good (x : Wd) (hl : x.l.length ≤ 12) (w : World) (hx : Bits w x) : Calls Try.prog 9 #[x.v] w fun e w' => e = .returned (.tuple #[.int .i64 (sm x.l : Nat), .int .i64 0]) ∧ w' = w := by
  have c1 := places_any x (by omega) w hx
  have hs : Hid (sm x.l = ps 0 x.l % (x.l.length + 1)) := rfl
  have hz : ¬ (12 : Int) < (x.l.length : Int) := by omega
  simp only [Wd.v] at *
  generalize sm x.l = r at *
  generalize ps 0 x.l = p at *
  generalize x.l.length = n at *
  go_enter Try.func9, Try.ntmps9
  go_wp2_with fail
  refine c1.mono ?_
  rintro e w1 ⟨rfl, rfl⟩
  clear c1
  go_wp2
  go_ret2
  exact ⟨by rw [hs.out]; rfl, rfl⟩

end Go.Proofs.Ytofdinddloejbaa
