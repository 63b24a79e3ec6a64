/-
  How many bits are set (three functions); the checks (two); slices.Clone; the first k bits turned (two).
-/
import Derived.Test.YtibedfdgkknoiaaEv
import Derived.Test.YtibedfdgkknoiaaRw
import Derived.Test.YtibedfdgkknoiaaOw
namespace Go.Proofs.Ytibedfdgkknoiaa
open Go.RowKit
set_option linter.unusedVariables false

set_option maxHeartbeats 1000000 in
theorem keepOnes_any (x : Wd) (hl : x.l.length ≤ 1000) (w : World) (hx : Bits w x) : Calls Try.prog 16 #[x.v] w fun e w' => e = .returned (.int .i64 (on x.l : Nat)) ∧ w' = w := by
  obtain ⟨a, c, l⟩ := x
  obtain ⟨h1, h2, _, b, o, h4, h5⟩ := hx
  simp only at h1 h2 h4 h5 hl ⊢
  simp only [Wd.v]
  unfold maxLen at h2
  obtain ⟨S, hS⟩ : ∃ S : Nat → Nat, ∀ k, S k = on (l.take k) := ⟨_, fun _ => rfl⟩
  obtain ⟨B, hB⟩ : ∃ B : Nat → Bool, ∀ k, B k = l.getD k false := ⟨_, fun _ => rfl⟩
  have HC : Hid (∀ i, i < l.length → w.cell? ⟨b, o + i, none⟩ = some (.bool (B i))) := fun i hi => by rw [hB]; exact h5 i hi
  have NX : Hid (∀ k, k < l.length → S (k + 1) = S k + (B k).toNat) := fun k h => by rw [hS, hS, hB]; exact on_take h
  have Z0 : Hid (S 0 = 0) := hS 0
  have ZN : on l = S l.length := by rw [hS, List.take_length]
  rw [ZN]
  clear h5 ZN hS hB
  generalize l.length = m at *
  go_enter Try.func16, Try.ntmps16
  go_wp2
  go_loopg [3, 5, 8] m (fun gg s3 _ s8 wr => ∃ k n : Nat, k ≤ m ∧ n ≤ k ∧ m - k ≤ gg ∧ s8 = .int .i64 k ∧ s3 = .int .i64 n ∧ Aside (n = S k) ∧ wr = w)
  case atStart => exact ⟨0, 0, Nat.zero_le _, Nat.zero_le _, by omega, rfl, rfl, Z0.out.symm, rfl⟩
  case round =>
    obtain ⟨k, n, hk, hn, hgg, rfl, rfl, A, rfl⟩ := hrel
    by_cases hlt : k < m
    · have hltz : (k : Int) < (m : Int) := by omega
      obtain rfl := h4 (by omega)
      have e1 := HC.out k hlt
      have nx := NX.out k hlt
      rw [← A.out] at nx
      clear HC NX Z0 h4 A
      generalize B k = q at *
      cases q
      · have fin : Hid (n = S (k + 1)) := by
          show _ = _
          rw [nx]; rfl
        clear nx
        go_wp2
        go_roundg (m - (k + 1))
        case measure => omega
        case rel => exact ⟨k + 1, n, by omega, by omega, by omega, by go_num, rfl, fin.out, rfl⟩
      · have fin : Hid (n + 1 = S (k + 1)) := by
          show _ = _
          rw [nx]; rfl
        clear nx
        go_wp2
        go_roundg (m - (k + 1))
        case measure => omega
        case rel => exact ⟨k + 1, n + 1, by omega, by omega, by omega, by go_num, by go_num, fin.out, rfl⟩
    · obtain rfl : k = m := by omega
      have hltz : ¬ (k : Int) < (k : Int) := by omega
      have a2 : Hid (n = S k) := A.out
      clear HC NX Z0 A
      go_wp2
      go_ret
      exact ⟨ret_int (by rw [a2.out]), rfl⟩

set_option maxHeartbeats 1000000 in
theorem refOnes_any (x : Wd) (hl : x.l.length ≤ 1000) (w : World) (hx : Bits w x) : Calls Try.prog 20 #[x.v] w fun e w' => e = .returned (.int .i64 (on x.l : Nat)) ∧ w' = w := by
  obtain ⟨a, c, l⟩ := x
  obtain ⟨h1, h2, _, b, o, h4, h5⟩ := hx
  simp only at h1 h2 h4 h5 hl ⊢
  simp only [Wd.v]
  unfold maxLen at h2
  obtain ⟨S, hS⟩ : ∃ S : Nat → Nat, ∀ k, S k = on (l.take k) := ⟨_, fun _ => rfl⟩
  obtain ⟨B, hB⟩ : ∃ B : Nat → Bool, ∀ k, B k = l.getD k false := ⟨_, fun _ => rfl⟩
  have HC : Hid (∀ i, i < l.length → w.cell? ⟨b, o + i, none⟩ = some (.bool (B i))) := fun i hi => by rw [hB]; exact h5 i hi
  have NX : Hid (∀ k, k < l.length → S (k + 1) = S k + (B k).toNat) := fun k h => by rw [hS, hS, hB]; exact on_take h
  have Z0 : Hid (S 0 = 0) := hS 0
  have ZN : on l = S l.length := by rw [hS, List.take_length]
  rw [ZN]
  clear h5 ZN hS hB
  generalize l.length = m at *
  go_enter Try.func20, Try.ntmps20
  go_wp2
  go_loopg [3, 5, 8] m (fun gg s3 _ s8 wr => ∃ k n : Nat, k ≤ m ∧ n ≤ k ∧ m - k ≤ gg ∧ s8 = .int .i64 k ∧ s3 = .int .i64 n ∧ Aside (n = S k) ∧ wr = w)
  case atStart => exact ⟨0, 0, Nat.zero_le _, Nat.zero_le _, by omega, rfl, rfl, Z0.out.symm, rfl⟩
  case round =>
    obtain ⟨k, n, hk, hn, hgg, rfl, rfl, A, rfl⟩ := hrel
    by_cases hlt : k < m
    · have hltz : (k : Int) < (m : Int) := by omega
      obtain rfl := h4 (by omega)
      have e1 := HC.out k hlt
      have nx := NX.out k hlt
      rw [← A.out] at nx
      clear HC NX Z0 h4 A
      generalize B k = q at *
      cases q
      · have fin : Hid (n = S (k + 1)) := by
          show _ = _
          rw [nx]; rfl
        clear nx
        go_wp2
        go_roundg (m - (k + 1))
        case measure => omega
        case rel => exact ⟨k + 1, n, by omega, by omega, by omega, by go_num, rfl, fin.out, rfl⟩
      · have fin : Hid (n + 1 = S (k + 1)) := by
          show _ = _
          rw [nx]; rfl
        clear nx
        go_wp2
        go_roundg (m - (k + 1))
        case measure => omega
        case rel => exact ⟨k + 1, n + 1, by omega, by omega, by omega, by go_num, by go_num, fin.out, rfl⟩
    · obtain rfl : k = m := by omega
      have hltz : ¬ (k : Int) < (k : Int) := by omega
      have a2 : Hid (n = S k) := A.out
      clear HC NX Z0 A
      go_wp2
      go_ret
      exact ⟨ret_int (by rw [a2.out]), rfl⟩

set_option maxHeartbeats 1000000 in
theorem count_any (x : Wd) (hl : x.l.length ≤ 1000) (w : World) (hx : Bits w x) : Calls Try.prog 26 #[x.v] w fun e w' => e = .returned (.int .i64 (on x.l : Nat)) ∧ w' = w := by
  obtain ⟨a, c, l⟩ := x
  obtain ⟨h1, h2, _, b, o, h4, h5⟩ := hx
  simp only at h1 h2 h4 h5 hl ⊢
  simp only [Wd.v]
  unfold maxLen at h2
  obtain ⟨S, hS⟩ : ∃ S : Nat → Nat, ∀ k, S k = on (l.take k) := ⟨_, fun _ => rfl⟩
  obtain ⟨B, hB⟩ : ∃ B : Nat → Bool, ∀ k, B k = l.getD k false := ⟨_, fun _ => rfl⟩
  have HC : Hid (∀ i, i < l.length → w.cell? ⟨b, o + i, none⟩ = some (.bool (B i))) := fun i hi => by rw [hB]; exact h5 i hi
  have NX : Hid (∀ k, k < l.length → S (k + 1) = S k + (B k).toNat) := fun k h => by rw [hS, hS, hB]; exact on_take h
  have Z0 : Hid (S 0 = 0) := hS 0
  have ZN : on l = S l.length := by rw [hS, List.take_length]
  rw [ZN]
  clear h5 ZN hS hB
  generalize l.length = m at *
  go_enter Try.func26, Try.ntmps26
  go_wp2
  go_loopg [3, 5, 8] m (fun gg s3 _ s8 wr => ∃ k n : Nat, k ≤ m ∧ n ≤ k ∧ m - k ≤ gg ∧ s8 = .int .i64 k ∧ s3 = .int .i64 n ∧ Aside (n = S k) ∧ wr = w)
  case atStart => exact ⟨0, 0, Nat.zero_le _, Nat.zero_le _, by omega, rfl, rfl, Z0.out.symm, rfl⟩
  case round =>
    obtain ⟨k, n, hk, hn, hgg, rfl, rfl, A, rfl⟩ := hrel
    by_cases hlt : k < m
    · have hltz : (k : Int) < (m : Int) := by omega
      obtain rfl := h4 (by omega)
      have e1 := HC.out k hlt
      have nx := NX.out k hlt
      rw [← A.out] at nx
      clear HC NX Z0 h4 A
      generalize B k = q at *
      cases q
      · have fin : Hid (n = S (k + 1)) := by
          show _ = _
          rw [nx]; rfl
        clear nx
        go_wp2
        go_roundg (m - (k + 1))
        case measure => omega
        case rel => exact ⟨k + 1, n, by omega, by omega, by omega, by go_num, rfl, fin.out, rfl⟩
      · have fin : Hid (n + 1 = S (k + 1)) := by
          show _ = _
          rw [nx]; rfl
        clear nx
        go_wp2
        go_roundg (m - (k + 1))
        case measure => omega
        case rel => exact ⟨k + 1, n + 1, by omega, by omega, by omega, by go_num, by go_num, fin.out, rfl⟩
    · obtain rfl : k = m := by omega
      have hltz : ¬ (k : Int) < (k : Int) := by omega
      have a2 : Hid (n = S k) := A.out
      clear HC NX Z0 A
      go_wp2
      go_ret
      exact ⟨ret_int (by rw [a2.out]), rfl⟩

/-- What the check of so many bits tells. -/
def ce (n : Nat) : Int := if 12 < n then 1 else if n % 2 = 1 then 3 else 0
theorem ce_large {n : Nat} (h : 12 < n) : ce n = 1 := if_pos h
theorem ce_odd {n : Nat} (h : n ≤ 12) (h2 : n % 2 = 1) : ce n = 3 := by unfold ce; rw [if_neg (by omega), if_pos h2]
theorem ce_good {n : Nat} (h : n ≤ 12) (h2 : n % 2 = 0) : ce n = 0 := by unfold ce; rw [if_neg (by omega), if_neg (by omega)]
theorem rem2 (n : Nat) : (n : Int).tmod 2 = ((n % 2 : Nat) : Int) := by rw [show (2 : Int) = ((2 : Nat) : Int) from rfl, ← Int.ofNat_tmod]

theorem check_any (a : Option Addr) (c n : Nat) (hm : n ≤ maxLen) (w : World) : Calls Try.prog 17 #[.slice a n c] w fun e w' => e = .returned (.int .i64 (ce n)) ∧ w' = w := by
  unfold maxLen at hm
  by_cases h : 12 < n
  · rw [ce_large h]
    have hz : (n : Int) > 12 := by omega
    go_enter Try.func17, Try.ntmps17
    go_wp2
    go_ret
    exact ⟨rfl, rfl⟩
  · have hz : ¬ (n : Int) > 12 := by omega
    have yz := rem2 n
    rcases Nat.mod_two_eq_zero_or_one n with h2 | h2
    · rw [ce_good (by omega) h2]
      rw [h2] at yz
      go_enter Try.func17, Try.ntmps17
      go_wp2
      go_ret
      exact ⟨rfl, rfl⟩
    · rw [ce_odd (by omega) h2]
      rw [h2] at yz
      go_enter Try.func17, Try.ntmps17
      go_wp2
      go_ret
      exact ⟨rfl, rfl⟩

theorem refCheck_any (a : Option Addr) (c n : Nat) (hm : n ≤ maxLen) (w : World) : Calls Try.prog 9 #[.slice a n c] w fun e w' => e = .returned (.int .i64 (ce n)) ∧ w' = w := by
  unfold maxLen at hm
  by_cases h : 12 < n
  · rw [ce_large h]
    have hz : (n : Int) > 12 := by omega
    go_enter Try.func9, Try.ntmps9
    go_wp2
    go_ret
    exact ⟨rfl, rfl⟩
  · have hz : ¬ (n : Int) > 12 := by omega
    have yz := rem2 n
    rcases Nat.mod_two_eq_zero_or_one n with h2 | h2
    · rw [ce_good (by omega) h2]
      rw [h2] at yz
      go_enter Try.func9, Try.ntmps9
      go_wp2
      go_ret
      exact ⟨rfl, rfl⟩
    · rw [ce_odd (by omega) h2]
      rw [h2] at yz
      go_enter Try.func9, Try.ntmps9
      go_wp2
      go_ret
      exact ⟨rfl, rfl⟩

set_option maxHeartbeats 400000 in
theorem clone_any (x : Wd) (w : World) (hx : Bits w x) (hb : x.l.length ≤ 100000) : Calls Try.prog 27 #[x.v] w fun e w' => ∃ v, e = .returned v ∧ OwnB w w' v x.l := by
  cases ha : x.a with
  | none =>
    have h0 := hx.2.2.1 ha
    have h1 := hx.1
    obtain ⟨a, c, z⟩ := x
    simp only [Wd.v] at *
    subst ha h0
    have : z = [] := List.eq_nil_of_length_eq_zero (by omega)
    subst this
    simp only [List.length_nil]
    have he : ∀ w : World, (binOp .eql 22 (.slice none 0 0) (.slice none 0 0)).run Try.prog w = .ok (.bool true) w := fun _ => rfl
    go_enter Try.func27, Try.ntmps27
    go_wp2
    go_ret
    exact ⟨_, rfl, OwnB.nil (Ext.refl w)⟩
  | some p =>
    have hv : x.v = .slice (some p) x.l.length x.c := by rw [Wd.v, ha]
    have HX : Hid (Bits (w.alloc (.cells #[] 4)) x) := hx.ext ((Ext.refl w).alloc _)
    have ho : Hid (OwnB w (w.alloc (.cells #[] 4)) (.slice (some ⟨w.heap.size, 0, none⟩) 0 0) []) := OwnB.empty w
    have hm1 := hx.1
    have hm2 := hx.2.1
    unfold maxLen at hm2
    have HB : Hid (([] : List Bool).length + x.l.length ≤ 140737488355328) := by
      show _ ≤ _
      rw [List.length_nil, Nat.zero_add]; omega
    rw [hv]
    have HV : Hid (x.v = .slice (some p) x.l.length x.c) := hv
    clear hv hx
    obtain ⟨n, hn⟩ : ∃ n, x.l.length = n := ⟨_, rfl⟩
    obtain ⟨c, hc⟩ : ∃ c, x.c = c := ⟨_, rfl⟩
    have HV : Hid (x.v = .slice (some p) n c) := by show _ = _; rw [HV.out, hn, hc]
    rw [hn, hc] at hm1 ⊢
    rw [hn] at hb
    rw [hc] at hm2
    clear hn hc ha
    have he : ∀ w : World, (binOp .eql 22 (.slice (some p) n c) (.slice none 0 0)).run Try.prog w = .ok (.bool false) w := fun _ => rfl
    go_enter Try.func27, Try.ntmps27
    go_wp2_with (at_builtin; refine wpList_appendBits rfl _ _ rfl w _ _ (by rfl) [] ho.out x (by exact HV.out.symm) HX.out HB.out ?_; intro v' w1 B; rw [List.nil_append] at B)
    go_ret
    exact ⟨_, rfl, B⟩

set_option maxHeartbeats 2000000 in
theorem turned_any (x : Wd) (hl : x.l.length ≤ 1000) (k0 : Nat) (hk0 : k0 ≤ x.l.length) (w : World) (hx : Bits w x) : Calls Try.prog 19 #[x.v, .int .i64 k0] w fun e w' => ∃ v, e = .returned v ∧ OwnB w w' v (tt k0 x.l) := by
  have c1 := clone_any x w hx (by omega)
  have hm1 := hx.1
  have hm2 := hx.2.1
  unfold maxLen at hm2
  obtain ⟨l, hll⟩ : ∃ l, x.l = l := ⟨_, rfl⟩
  have HM : Hid (x.l = l) := hll
  obtain ⟨n, hn⟩ : ∃ n, x.l.length = n := ⟨_, rfl⟩
  obtain ⟨xa, ha⟩ : ∃ xa, x.a = xa := ⟨_, rfl⟩
  obtain ⟨xc, hc⟩ : ∃ xc, x.c = xc := ⟨_, rfl⟩
  have HV : Hid (Value.slice xa n xc = x.v) := by show _ = _; rw [Wd.v, ha, hn, hc]
  rw [← HV.out] at c1
  rw [← HV.out]
  have hn2 : l.length = n := by rw [← hll]; exact hn
  have HN : Hid (l.length = n) := hn2
  obtain ⟨S, hS⟩ : ∃ S : Nat → List Bool, ∀ k, S k = tt k l := ⟨_, fun _ => rfl⟩
  have HT : Hid (∀ k, (S k).length = n) := fun k => by rw [hS, tt_len]; exact hn2
  have HS : Hid (∀ k, k < n → S (k + 1) = (S k).set k (!((S k).getD k false))) := fun k hk => by rw [hS, hS]; exact tt_next k l (by omega)
  have HZ : Hid (S 0 = l) := hS 0
  rw [hll, ← hS]
  rw [hn] at hl hk0 hm1
  rw [hc] at hm1 hm2
  clear hx hll hn hn2 ha hc hS
  go_enter Try.func19, Try.ntmps19
  go_wp2_with fail
  refine c1.mono ?_
  rintro e w1 ⟨v, rfl, O⟩
  have O1 : Hid (OwnB w w1 v l) := by show OwnB _ _ _ _; rw [← HM.out]; exact O
  clear c1 O
  by_cases h0 : n = 0
  · subst h0
    obtain rfl : k0 = 0 := by omega
    have O2 : Hid (OwnB w w1 v (S 0)) := by show OwnB _ _ _ _; rw [HZ.out]; exact O1.out
    clear O1 HM HN HT HS HZ
    go_wp2
    go_loopg [6, 10] 0 (fun gg _ s10 wr => s10 = .int .i64 0 ∧ wr = w1)
    case atStart => exact ⟨rfl, rfl⟩
    case round =>
      obtain ⟨rfl, rfl⟩ := hrel
      go_wp2
      go_ret
      exact ⟨_, rfl, O2.out⟩
  · obtain ⟨g, cap, rest, rfl, hg, hcap, hmax, hR1, hrest⟩ := O1.out.row (by rw [HN.out]; omega)
    rw [HN.out] at hcap hrest ⊢
    have HR1 : Hid (RB w1 g (S 0) rest) := by show RB _ _ _ _; rw [HZ.out]; exact hR1
    have HE1 : Hid (Ext w w1) := O1.out.1
    have HMx : Hid (cap ≤ maxLen) := hmax
    unfold maxLen at hmax
    clear O1 hR1 HM HN HZ
    go_wp2
    go_loopg [6, 10] k0 (fun gg _ s10 wr => ∃ k : Nat, k ≤ k0 ∧ k0 - k ≤ gg ∧ s10 = .int .i64 k ∧ Aside (Ext w wr) ∧ Aside (RB wr g (S k) rest))
    case atStart => exact ⟨0, Nat.zero_le _, by omega, rfl, HE1.out, HR1.out⟩
    case round =>
      obtain ⟨k, hk, hgg, rfl, E, X⟩ := hrel
      by_cases hlt : k < k0
      · have hltz : (k : Int) < (k0 : Int) := by omega
        have e2 := X.out.cell k (by rw [HT.out]; omega)
        have f2 := Row.fr X.out k
        have nX : Hid (RB (wr.setCell ⟨g, k, none⟩ (.bool (!((S k).getD k false)))) g (S (k + 1)) rest) := by
          show RB _ _ _ _
          rw [HS.out k (by omega)]
          exact X.out.set k (by rw [HT.out]; omega) _
        have nE : Hid (Ext w (wr.setCell ⟨g, k, none⟩ (.bool (!((S k).getD k false))))) := E.out.setCell hg _
        generalize (S k).getD k false = b0 at *
        clear HT HS X E HR1 HE1
        go_wp2
        go_roundg (k0 - (k + 1))
        case measure => omega
        case rel => exact ⟨k + 1, by omega, by omega, by go_num, nE.out, nX.out⟩
      · obtain rfl : k = k0 := by omega
        have hltz : ¬ (k : Int) < (k : Int) := by omega
        have F : Hid (OwnB w wr (.slice (some ⟨g, 0, none⟩) n cap) (S k)) := by
          have := OwnB.of_row (l := S k) (rest := rest) (cap := cap) E.out hg X.out (by rw [HT.out]; exact hrest) HMx.out
          rw [HT.out] at this
          exact this
        clear HT HS X E HR1 HE1
        go_wp2
        go_ret
        exact ⟨_, rfl, F.out⟩

set_option maxHeartbeats 2000000 in
theorem turnedTo_any (x : Wd) (hl : x.l.length ≤ 1000) (k0 : Nat) (hk0 : k0 ≤ x.l.length) (w : World) (hx : Bits w x) : Calls Try.prog 21 #[x.v, .int .i64 k0] w fun e w' => ∃ v, e = .returned v ∧ OwnB w w' v (tt k0 x.l) := by
  have HX : Hid (Bits (w.alloc (.cells #[] 4)) x) := hx.ext ((Ext.refl w).alloc _)
  have HO : Hid (OwnB w (w.alloc (.cells #[] 4)) (.slice (some ⟨w.heap.size, 0, none⟩) 0 0) []) := OwnB.empty w
  have HB : Hid (([] : List Bool).length + x.l.length ≤ 140737488355328) := by show _ ≤ _; rw [List.length_nil]; omega
  have hm1 := hx.1
  have hm2 := hx.2.1
  unfold maxLen at hm2
  obtain ⟨l, hll⟩ : ∃ l, x.l = l := ⟨_, rfl⟩
  have HM : Hid (x.l = l) := hll
  obtain ⟨n, hn⟩ : ∃ n, x.l.length = n := ⟨_, rfl⟩
  obtain ⟨xa, ha⟩ : ∃ xa, x.a = xa := ⟨_, rfl⟩
  obtain ⟨xc, hc⟩ : ∃ xc, x.c = xc := ⟨_, rfl⟩
  have HV : Hid (Value.slice xa n xc = x.v) := by show _ = _; rw [Wd.v, ha, hn, hc]
  rw [← HV.out]
  have hn2 : l.length = n := by rw [← hll]; exact hn
  have HN : Hid (l.length = n) := hn2
  obtain ⟨S, hS⟩ : ∃ S : Nat → List Bool, ∀ k, S k = tt k l := ⟨_, fun _ => rfl⟩
  have HT : Hid (∀ k, (S k).length = n) := fun k => by rw [hS, tt_len]; exact hn2
  have HS : Hid (∀ k, k < n → S (k + 1) = (S k).set k (!((S k).getD k false))) := fun k hk => by rw [hS, hS]; exact tt_next k l (by omega)
  have HZ : Hid (S 0 = l) := hS 0
  rw [hll, ← hS]
  rw [hn] at hl hk0 hm1
  rw [hc] at hm1 hm2
  clear hx hll hn hn2 ha hc hS
  go_enter Try.func21, Try.ntmps21
  go_wp2_with (at_builtin; refine wpList_appendBits rfl _ _ rfl w _ _ (by rfl) [] HO.out x (by exact HV.out) HX.out HB.out ?_; intro v w1 O; rw [List.nil_append, HM.out] at O; have O1 : Hid (OwnB w w1 v l) := O; clear O)
  by_cases h0 : n = 0
  · subst h0
    obtain rfl : k0 = 0 := by omega
    have O2 : Hid (OwnB w w1 v (S 0)) := by show OwnB _ _ _ _; rw [HZ.out]; exact O1.out
    clear O1 HM HN HT HS HZ
    go_wp2
    go_loopg [6] 0 (fun gg s6 wr => s6 = .int .i64 0 ∧ wr = w1)
    case atStart => exact ⟨rfl, rfl⟩
    case round =>
      obtain ⟨rfl, rfl⟩ := hrel
      go_wp2
      go_ret
      exact ⟨_, rfl, O2.out⟩
  · obtain ⟨g, cap, rest, rfl, hg, hcap, hmax, hR1, hrest⟩ := O1.out.row (by rw [HN.out]; omega)
    rw [HN.out] at hcap hrest ⊢
    have HR1 : Hid (RB w1 g (S 0) rest) := by show RB _ _ _ _; rw [HZ.out]; exact hR1
    have HE1 : Hid (Ext w w1) := O1.out.1
    have HMx : Hid (cap ≤ maxLen) := hmax
    unfold maxLen at hmax
    clear O1 hR1 HM HN HZ
    go_wp2
    go_loopg [6] k0 (fun gg s6 wr => ∃ k : Nat, k ≤ k0 ∧ k0 - k ≤ gg ∧ s6 = .int .i64 k ∧ Aside (Ext w wr) ∧ Aside (RB wr g (S k) rest))
    case atStart => exact ⟨0, Nat.zero_le _, by omega, rfl, HE1.out, HR1.out⟩
    case round =>
      obtain ⟨k, hk, hgg, rfl, E, X⟩ := hrel
      by_cases hlt : k < k0
      · have hltz : (k : Int) < (k0 : Int) := by omega
        have e2 := X.out.cell k (by rw [HT.out]; omega)
        have f2 := Row.fr X.out k
        have nX : Hid (RB (wr.setCell ⟨g, k, none⟩ (.bool (!((S k).getD k false)))) g (S (k + 1)) rest) := by
          show RB _ _ _ _
          rw [HS.out k (by omega)]
          exact X.out.set k (by rw [HT.out]; omega) _
        have nE : Hid (Ext w (wr.setCell ⟨g, k, none⟩ (.bool (!((S k).getD k false))))) := E.out.setCell hg _
        generalize (S k).getD k false = b0 at *
        clear HT HS X E HR1 HE1
        go_wp2
        go_roundg (k0 - (k + 1))
        case measure => omega
        case rel => exact ⟨k + 1, by omega, by omega, by go_num, nE.out, nX.out⟩
      · obtain rfl : k = k0 := by omega
        have hltz : ¬ (k : Int) < (k : Int) := by omega
        have F : Hid (OwnB w wr (.slice (some ⟨g, 0, none⟩) n cap) (S k)) := by
          have := OwnB.of_row (l := S k) (rest := rest) (cap := cap) E.out hg X.out (by rw [HT.out]; exact hrest) HMx.out
          rw [HT.out] at this
          exact this
        clear HT HS X E HR1 HE1
        go_wp2
        go_ret
        exact ⟨_, rfl, F.out⟩
end Go.Proofs.Ytibedfdgkknoiaa
