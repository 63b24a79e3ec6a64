/-
  quipukeep.krawtchouk.
-/
import Derived.Test.YtdfjjjcaibadoabFc
namespace Go.Proofs.Ytdfjjjcaibadoab
open Go.RowKit

theorem kw_succ (c k m : Nat) : kw c k (m + 1) = kw c k m + (if pop m = k then sg c m else 0) := by
  unfold kw
  rw [List.range_succ, su_app, su_cons, su_nil]
  omega
theorem kw_none (c k : Nat) : kw c k 0 = 0 := rfl
theorem sg_abs (c w : Nat) : sg c w = 1 ∨ sg c w = -1 := by
  unfold sg
  split
  · exact Or.inr rfl
  · exact Or.inl rfl
theorem kw_abs (c k : Nat) : ∀ m : Nat, -(m : Int) ≤ kw c k m ∧ kw c k m ≤ m
  | 0 => by rw [kw_none]; omega
  | m + 1 => by
    have h := kw_abs c k m
    rw [kw_succ]
    split
    · rcases sg_abs c m with e | e <;> rw [e] <;> omega
    · omega

set_option maxHeartbeats 1000000 in
theorem kraw_any (n k j : Nat) (hn : n ≤ 12) (hk : k ≤ 12) (hj : j ≤ n) (w : World) :
    Calls Try.prog 12 #[.int .i64 n, .int .i64 k, .int .i64 j] w fun e w' => e = .returned (.int .i64 (kr n k j)) ∧ w' = w := by
  have hM : 2 ^ n ≤ 2 ^ 12 := Nat.pow_le_pow_right (by omega) hn
  have hJ : 2 ^ j ≤ 2 ^ 12 := Nat.pow_le_pow_right (by omega) (by omega)
  have hJ0 : 0 < 2 ^ j := Nat.two_pow_pos _
  have pw : (2 : Int) ^ n % 4294967296 = ((2 ^ n : Nat) : Int) := pow_in _ (by omega)
  have pj : (2 : Int) ^ j % 4294967296 = ((2 ^ j : Nat) : Int) := pow_in _ (by omega)
  have SZ : Hid (∀ (x : Nat) W, x < 4294967296 → Calls Try.prog 11 #[.int .u32 (x : Nat)] W fun e w' => e = .returned (.int .i64 (pop x : Nat)) ∧ w' = W) := fun x W hx => size_any x hx W
  have P32 : Hid (∀ x, pop x ≤ 32) := fun x => popN_le 32 x
  obtain ⟨c, hc⟩ : ∃ c, 2 ^ j - 1 = c := ⟨_, rfl⟩
  have cz : ((2 ^ j : Nat) : Int) - 1 = (c : Int) := by omega
  have hcb : c < 4294967296 := by omega
  unfold kr
  rw [hc]
  have KN : Hid (∀ m, kw c k (m + 1) = kw c k m + (if pop m = k then sg c m else 0)) := kw_succ c k
  have KA : Hid (∀ m : Nat, -(m : Int) ≤ kw c k m ∧ kw c k m ≤ m) := kw_abs c k
  have K0 : Hid (kw c k 0 = 0) := kw_none c k
  have SG : Hid (∀ m, sg c m = if pop (m &&& c) % 2 = 0 then 1 else -1) := fun m => by
    unfold sg odd
    rw [Nat.and_comm]
    generalize pop (m &&& c) = P
    rcases Nat.mod_two_eq_zero_or_one P with h | h
    · rw [h]; rfl
    · rw [h]; rfl
  clear hc
  generalize 2 ^ n = M at *
  generalize 2 ^ j = T at *
  generalize kw c k = F at *
  go_enter Try.func12, Try.ntmps12
  go_wp2
  go_loopg [7, 8] M (fun gg s7 s8 wr => ∃ m : Nat, m ≤ M ∧ M - m ≤ gg ∧ s8 = .int .u32 m ∧ s7 = .int .i64 (F m) ∧ wr = w)
  case atStart => exact ⟨0, Nat.zero_le _, by omega, rfl, by rw [K0.out], rfl⟩
  case round =>
    obtain ⟨m, hm, hg, rfl, rfl, rfl⟩ := hrel
    by_cases hlt : m < M
    · have hltz : (m : Int) < (M : Int) := by omega
      have c1 := SZ.out m wr (by omega)
      have c2 : Hid (∀ W, Calls Try.prog 11 #[.int .u32 (m &&& c : Nat)] W fun e w' => e = .returned (.int .i64 (pop (m &&& c) : Nat)) ∧ w' = W) := fun W => SZ.out _ W (by have := Nat.and_le_right (n := m) (m := c); omega)
      have ka := KA.out m
      have kn := KN.out m
      have an := u32_and_nat m c (by omega) hcb
      have p1 := P32.out m
      have p2 := P32.out (m &&& c)
      rw [SG.out] at kn
      clear SG KN KA K0 P32 SZ
      generalize m &&& c = X at *
      generalize pop m = P at *
      generalize pop X = Q at *
      obtain ⟨f1, hf1⟩ : ∃ f1, F (m + 1) = f1 := ⟨_, rfl⟩
      rw [hf1] at kn
      have F1 : Hid (F (m + 1) = f1) := hf1
      clear hf1
      generalize F m = A at *
      by_cases hpk : P = k
      · subst hpk
        rw [if_pos rfl] at kn
        have hpz : ((P : Int) != (P : Int)) = false := by simp
        obtain ⟨t, ht⟩ : ∃ t, Q % 2 = t := ⟨_, rfl⟩
        have qz : (Q : Int).tmod 2 = (t : Int) := by
          rw [show (2 : Int) = ((2 : Nat) : Int) from rfl, ← Int.ofNat_tmod, ht]
        have ht2 : t < 2 := by omega
        rw [ht] at kn
        clear ht
        by_cases h0 : t = 0
        · subst h0
          rw [if_pos rfl] at kn
          have K1 : Hid (f1 = A + 1) := kn
          clear kn
          go_wp2_with (first | (refine c1.mono ?_; rintro e w1 ⟨rfl, rfl⟩; clear c1) | (refine (c2.out _).mono ?_; rintro e w2 ⟨rfl, rfl⟩))
          go_roundg (M - (m + 1))
          case measure => omega
          case rel => exact ⟨m + 1, by omega, by omega, by go_num, by rw [F1.out, K1.out], rfl⟩
        · have h1 : t = 1 := by omega
          subst h1
          rw [if_neg (by omega)] at kn
          have K1 : Hid (f1 = A - 1) := by show _ = _; omega
          clear kn
          go_wp2_with (first | (refine c1.mono ?_; rintro e w1 ⟨rfl, rfl⟩; clear c1) | (refine (c2.out _).mono ?_; rintro e w2 ⟨rfl, rfl⟩))
          go_roundg (M - (m + 1))
          case measure => omega
          case rel => exact ⟨m + 1, by omega, by omega, by go_num, by rw [F1.out, K1.out], rfl⟩
      · rw [if_neg hpk] at kn
        have hpz : ((P : Int) != (k : Int)) = true := by rw [bne_iff_ne]; omega
        have K1 : Hid (f1 = A) := by show _ = _; omega
        clear kn c2
        go_wp2_with (refine c1.mono ?_; rintro e w1 ⟨rfl, rfl⟩; clear c1)
        go_roundg (M - (m + 1))
        case measure => omega
        case rel => exact ⟨m + 1, by omega, by omega, by go_num, by rw [F1.out, K1.out], rfl⟩
    · obtain rfl : M = m := by omega
      have hltz : ¬ (M : Int) < (M : Int) := by omega
      clear KN KA K0 SG SZ P32
      go_wp2
      go_ret
      exact ⟨rfl, rfl⟩

end Go.Proofs.Ytdfjjjcaibadoab
