/-
  quipuref.Bit, Power, Pointer, OddBits.
-/
import Derived.Test.YtdplmaofapnhhaaPtr
import Derived.Laws.BitsAllLaws
namespace Go.Proofs.Ytdplmaofapnhhaa
open Go.RowKit
set_option linter.unusedVariables false

theorem pow_in (i : Nat) (hi : i < 32) : (2 : Int) ^ i % 4294967296 = ((2 ^ i : Nat) : Int) := by
  have h : 2 ^ i < 2 ^ 32 := Nat.pow_lt_pow_right (by omega) hi
  have e : (2 : Int) ^ i = ((2 ^ i : Nat) : Int) := by rw [Int.natCast_pow]; rfl
  rw [e]
  generalize 2 ^ i = M at *
  omega
theorem bit_and (x i : Nat) (hx : x < 4294967296) (hi : i < 32) : (bits BinOp.and IntKind.u32 (x : Int) (2 ^ i % 4294967296) != 0) = x.testBit i := by
  have h : 2 ^ i < 2 ^ 32 := Nat.pow_lt_pow_right (by omega) hi
  rw [pow_in i hi, u32_and_nat x (2 ^ i) hx h]
  cases hb : x.testBit i
  · have : x &&& 2 ^ i = 0 := by
      apply Nat.eq_of_testBit_eq
      intro j
      rw [Nat.testBit_and, Nat.testBit_two_pow, Nat.zero_testBit]
      by_cases e : i = j
      · rw [← e, hb]; rfl
      · simp [e]
    rw [this]; rfl
  · have : x &&& 2 ^ i ≠ 0 := by
      intro e
      have t : (x &&& 2 ^ i).testBit i = true := by rw [Nat.testBit_and, hb, Nat.testBit_two_pow_self]; rfl
      rw [e, Nat.zero_testBit] at t
      cases t
    rw [bne_iff_ne]
    omega

theorem bit_any (x i : Nat) (hx : x < 4294967296) (hi : i < 32) (w : World) : Calls Try.prog 22 #[.int .u32 x, .int .i64 i] w fun e w' => e = .returned (.bool (x.testBit i)) ∧ w' = w := by
  have e := bit_and x i hx hi
  go_enter Try.func22, Try.ntmps22
  go_wp2
  go_ret
  exact ⟨rfl, rfl⟩

theorem half_small : ∀ y : Fin 16, 1 ≤ y.1 → y.1 % 2 = 0 → isC (y.1 / 2) = isC y.1 := by decide
theorem odd_small : ∀ y : Fin 16, y.1 % 2 = 1 → isC y.1 = (y.1 == 1) := by decide

theorem power_any (i : Nat) (hi : i < 15) (w : World) : Calls Try.prog 21 #[.int .i64 ((i : Int) + 1)] w fun e w' => e = .returned (.bool (isC (i + 1))) ∧ w' = w := by
  obtain ⟨C, hC⟩ : ∃ C, isC (i + 1) = C := ⟨_, rfl⟩
  rw [hC]
  have HC : Hid (isC (i + 1) = C) := hC
  clear hC
  go_enter Try.func21, Try.ntmps21
  go_wp2
  go_loopg [0] 16 (fun gg s0 wr => ∃ y : Nat, 1 ≤ y ∧ y ≤ 15 ∧ y ≤ gg ∧ s0 = .int .i64 y ∧ Aside (isC y = C) ∧ wr = w)
  case atStart => exact ⟨i + 1, by omega, by omega, by omega, rfl, HC.out, rfl⟩
  case round =>
    obtain ⟨y, h1, h15, hgg, rfl, A, rfl⟩ := hrel
    have yz : (y : Int).tmod 2 = ((y % 2 : Nat) : Int) := by rw [show (2 : Int) = ((2 : Nat) : Int) from rfl, ← Int.ofNat_tmod]
    have yd : (y : Int).tdiv 2 = ((y / 2 : Nat) : Int) := by rw [show (2 : Int) = ((2 : Nat) : Int) from rfl, ← Int.ofNat_tdiv]
    have hgt : (y : Int) > 0 := by omega
    rcases Nat.mod_two_eq_zero_or_one y with h | h
    · have a2 : Aside (isC (y / 2) = C) := by rw [half_small ⟨y, by omega⟩ h1 h]; exact A.out
      rw [h] at yz
      clear A HC
      have hd1 : 1 ≤ y / 2 := by omega
      have hd2 : y / 2 < y := by omega
      clear h
      generalize y / 2 = z at *
      go_wp2
      go_roundg z
      case measure => omega
      case rel => exact ⟨z, by omega, by omega, by omega, rfl, a2.out, rfl⟩
    · have a2 : C = (y == 1) := by rw [← A.out]; exact odd_small ⟨y, by omega⟩ h
      rw [h] at yz
      clear A HC
      subst a2
      go_wp2
      go_ret
      exact ⟨ret_bool (by rw [Bool.eq_iff_iff, beq_iff_eq, beq_iff_eq]; omega), rfl⟩

theorem oddBits_any (x : Wd) (w : World) (hx : Bits w x) : Calls Try.prog 16 #[x.v] w fun e w' => e = .returned (.bool (ob x.l)) ∧ w' = w := by
  obtain ⟨a, c, l⟩ := x
  obtain ⟨h1, h2, _, b, o, h4, h5⟩ := hx
  simp only at h1 h2 h4 h5
  simp only [Wd.v]
  unfold maxLen at h2
  obtain ⟨S, hS⟩ : ∃ S : Nat → Bool, ∀ k, S k = ob (l.take k) := ⟨_, fun _ => rfl⟩
  obtain ⟨B, hB⟩ : ∃ B : Nat → Bool, ∀ k, B k = l.getD k false := ⟨_, fun _ => rfl⟩
  have HC : Hid (∀ i, i < l.length → w.cell? ⟨b, o + i, none⟩ = some (.bool (B i))) := fun i hi => by rw [hB]; exact h5 i hi
  have NX : Hid (∀ k, k < l.length → S (k + 1) = (S k != B k)) := fun k h => by rw [hS, hS, hB]; exact ob_take h
  have Z0 : Hid (S 0 = false) := hS 0
  have ZN : ob l = S l.length := by rw [hS, List.take_length]
  rw [ZN]
  clear h5 ZN hS hB
  generalize l.length = m at *
  go_enter Try.func16, Try.ntmps16
  go_wp2
  go_loopg [3, 8] m (fun gg s3 s8 wr => ∃ k n : Nat, k ≤ m ∧ n ≤ k ∧ m - k ≤ gg ∧ s8 = .int .i64 k ∧ s3 = .int .i64 n ∧ Aside ((n % 2 == 1) = S k) ∧ wr = w)
  case atStart => exact ⟨0, 0, Nat.zero_le _, Nat.zero_le _, by omega, rfl, rfl, Z0.out.symm, rfl⟩
  case round =>
    obtain ⟨k, n, hk, hn, hgg, rfl, rfl, A, rfl⟩ := hrel
    by_cases hlt : k < m
    · have hltz : (k : Int) < (m : Int) := by omega
      obtain rfl := h4 (by omega)
      have e1 := HC.out k hlt
      have nx := NX.out k hlt
      clear HC NX Z0 h4
      cases hy : B k
      · rw [hy] at e1 nx
        have fin : Aside ((n % 2 == 1) = S (k + 1)) := by
          show _ = _
          rw [nx, ← A.out, Bool.bne_false]
        clear hy nx A
        go_wp2
        go_roundg (m - (k + 1))
        case measure => omega
        case rel => exact ⟨k + 1, n, by omega, by omega, by omega, by go_num, rfl, fin.out, rfl⟩
      · rw [hy] at e1 nx
        have fin : Aside (((n + 1) % 2 == 1) = S (k + 1)) := by
          show _ = _
          rw [nx, ← A.out]
          rcases Nat.mod_two_eq_zero_or_one n with h | h
          · rw [h, show (n + 1) % 2 = 1 by omega]; rfl
          · rw [h, show (n + 1) % 2 = 0 by omega]; rfl
        clear hy nx A
        go_wp2
        go_roundg (m - (k + 1))
        case measure => omega
        case rel => exact ⟨k + 1, n + 1, by omega, by omega, by omega, by go_num, by go_num, fin.out, rfl⟩
    · obtain rfl : k = m := by omega
      have hltz : ¬ (k : Int) < (k : Int) := by omega
      have yz : (n : Int).tmod 2 = ((n % 2 : Nat) : Int) := by rw [show (2 : Int) = ((2 : Nat) : Int) from rfl, ← Int.ofNat_tmod]
      clear HC NX Z0
      have a2 : Hid ((n % 2 == 1) = S k) := A.out
      clear A
      generalize n % 2 = q at *
      go_wp2
      go_ret
      exact ⟨ret_bool (by rw [← a2.out, Bool.eq_iff_iff, beq_iff_eq, beq_iff_eq]; omega), rfl⟩

theorem pt_take {l : List Bool} {k i : Nat} (h : k < l.length) : (pf 1 (l.take (k + 1))).testBit i = ((pf 1 (l.take k)).testBit i != (l.getD k false && (k + 1).testBit i)) := by
  rw [pf_take h, Nat.testBit_xor]
  cases l.getD k false
  · simp
  · simp
theorem mod_yes {p i : Nat} (h : p.testBit i = true) : p % 2 ^ (i + 1) = p % 2 ^ i + 2 ^ i := by
  rw [Nat.mod_pow_succ]
  rw [Nat.testBit_eq_decide_div_mod_eq, decide_eq_true_eq] at h
  rw [h, Nat.mul_one]
theorem mod_no {p i : Nat} (h : p.testBit i = false) : p % 2 ^ (i + 1) = p % 2 ^ i := by
  rw [Nat.mod_pow_succ]
  rw [Nat.testBit_eq_decide_div_mod_eq, decide_eq_false_iff_not] at h
  rw [show p / 2 ^ i % 2 = 0 by omega, Nat.mul_zero, Nat.add_zero]

theorem add_pow {A i : Nat} (hA : A < 16) (hi : i < 4) : wrap64 ((A : Int) + wrap64 (2 ^ i)) = ((A + 2 ^ i : Nat) : Int) := by
  obtain rfl | rfl | rfl | rfl : i = 0 ∨ i = 1 ∨ i = 2 ∨ i = 3 := by omega
  all_goals
    simp only [wrap64, Nat.reducePow, Int.reducePow]
    omega

theorem pointer_any {r : Nat} (hr : R r) (x : Wd) (hl : x.l.length ≤ 15) (hp : pf 1 x.l < 2 ^ r) (w : World) (hx : Bits w x) : Calls Try.prog 23 #[.int .i64 r, x.v] w fun e w' => e = .returned (.int .i64 (pf 1 x.l : Nat)) ∧ w' = w := by
  obtain ⟨a, c, l⟩ := x
  obtain ⟨h1, h2, _, b, o, h4, h5⟩ := hx
  simp only at h1 h2 h4 h5 hl hp
  simp only [Wd.v]
  have hr4 : r ≤ 4 := hr.2
  obtain ⟨S, hS⟩ : ∃ S : Nat → Nat → Bool, ∀ i k, S i k = (pf 1 (l.take k)).testBit i := ⟨_, fun _ _ => rfl⟩
  obtain ⟨B, hB⟩ : ∃ B : Nat → Bool, ∀ k, B k = l.getD k false := ⟨_, fun _ => rfl⟩
  obtain ⟨M, hM⟩ : ∃ M : Nat → Nat, ∀ i, M i = pf 1 l % 2 ^ i := ⟨_, fun _ => rfl⟩
  have HC : Hid (∀ i, i < l.length → w.cell? ⟨b, o + i, none⟩ = some (.bool (B i))) := fun i hi => by rw [hB]; exact h5 i hi
  have NX : Hid (∀ i k, k < l.length → S i (k + 1) = (S i k != (B k && (k + 1).testBit i))) := fun i k h => by rw [hS, hS, hB]; exact pt_take h
  have Z0 : Hid (∀ i, S i 0 = false) := fun i => by show _ = _; rw [hS]; exact Nat.zero_testBit i
  have MY : Hid (∀ i, S i l.length = true → M (i + 1) = M i + 2 ^ i) := fun i h => by rw [hM, hM]; rw [hS, List.take_length] at h; exact mod_yes h
  have MN : Hid (∀ i, S i l.length = false → M (i + 1) = M i) := fun i h => by rw [hM, hM]; rw [hS, List.take_length] at h; exact mod_no h
  have M0 : Hid (M 0 = 0) := by show _ = _; rw [hM]; exact Nat.mod_one _
  have ML : Hid (∀ i, i ≤ 4 → M i < 16) := fun i hi => by
    rw [hM]
    have := Nat.mod_lt (pf 1 l) (Nat.two_pow_pos i)
    have h4' : 2 ^ i ≤ 2 ^ 4 := Nat.pow_le_pow_right (by omega) hi
    omega
  have HB : Hid (∀ (y i : Nat) W, y < 4294967296 → i < 32 → Calls Try.prog 22 #[.int .u32 y, .int .i64 i] W fun e w' => e = .returned (.bool (y.testBit i)) ∧ w' = W) := fun y i W h h' => bit_any y i h h' W
  have ZN : pf 1 l = M r := by rw [hM, Nat.mod_eq_of_lt hp]
  rw [ZN]
  clear h5 ZN hS hB hM hp hr
  generalize l.length = m at *
  go_enter Try.func23, Try.ntmps23
  go_wp2
  go_loopg [5, 6] r (fun gg s5 s6 wr => ∃ i : Nat, i ≤ r ∧ r - i ≤ gg ∧ s6 = .int .i64 i ∧ s5 = .int .i64 (M i : Nat) ∧ wr = w)
  case atStart => exact ⟨0, Nat.zero_le _, by omega, rfl, by rw [M0.out]; rfl, rfl⟩
  case round =>
    obtain ⟨i, hi, hgg, rfl, rfl, rfl⟩ := hrel
    by_cases hlt : i < r
    · have hltz : (i : Int) < (r : Int) := by omega
      have ml := ML.out i (by omega)
      have my := MY.out i
      have mn := MN.out i
      clear ML MY MN M0
      go_wp2
      go_loopg [7, 8] m (fun gg s7 s8 wq => ∃ k : Nat, k ≤ m ∧ m - k ≤ gg ∧ s8 = .int .i64 k ∧ s7 = .bool (S i k) ∧ wq = wr)
      case atStart => exact ⟨0, Nat.zero_le _, by omega, rfl, by rw [Z0.out], rfl⟩
      case round =>
        obtain ⟨k, hk, hgk, rfl, rfl, rfl⟩ := hrel
        by_cases hlk : k < m
        · have hkz : (k : Int) < (m : Int) := by omega
          obtain rfl := h4 (by omega)
          have e1 := HC.out k hlk
          have nx := NX.out i k hlk
          clear NX Z0 my mn
          cases hy : B k
          · rw [hy] at e1 nx
            have nx' : Hid (S i (k + 1) = S i k) := by show _ = _; rw [nx, Bool.false_and, Bool.bne_false]
            clear hy nx HB HC
            generalize S i k = A at *
            go_wp2
            go_roundg (m - (k + 1))
            case measure => omega
            case rel => exact ⟨k + 1, by omega, by omega, by go_num, by rw [nx'.out], rfl⟩
          · rw [hy] at e1 nx
            have nx' : Hid (S i (k + 1) = (S i k != (k + 1).testBit i)) := by show _ = _; rw [nx, Bool.true_and]
            have c1 := HB.out (k + 1) i wr (by omega) (by omega)
            rw [Int.natCast_add] at c1
            clear hy nx HB HC
            generalize S i k = A at *
            generalize (k + 1).testBit i = tb at *
            go_wp2_with fail
            refine c1.mono ?_
            rintro e w' ⟨rfl, rfl⟩
            clear c1
            cases tb <;> cases A
            all_goals
              go_wp2
              go_roundg (m - (k + 1))
              case measure => omega
              case rel => exact ⟨k + 1, by omega, by omega, by go_num, by rw [nx'.out]; rfl, rfl⟩
        · obtain rfl : k = m := by omega
          have hkz : ¬ (k : Int) < (k : Int) := by omega
          clear HC NX Z0 HB
          cases hy : S i k
          · have nx : Hid (M (i + 1) = M i) := mn hy
            clear my mn hy
            generalize M i = A at *
            go_wp2
            go_roundg (r - (i + 1))
            case measure => omega
            case rel => exact ⟨i + 1, by omega, by omega, by go_num, by rw [nx.out], rfl⟩
          · have nx : Hid (M (i + 1) = M i + 2 ^ i) := my hy
            clear my mn hy
            generalize M i = A at *
            go_wp2
            go_roundg (r - (i + 1))
            case measure => omega
            case rel => exact ⟨i + 1, by omega, by omega, by go_num, by rw [nx.out, add_pow ml (by omega)], rfl⟩
    · obtain rfl : i = r := by omega
      have hltz : ¬ (i : Int) < (i : Int) := by omega
      clear HC NX Z0 MY MN M0 ML HB
      go_wp2
      go_ret
      exact ⟨rfl, rfl⟩

end Go.Proofs.Ytdplmaofapnhhaa
