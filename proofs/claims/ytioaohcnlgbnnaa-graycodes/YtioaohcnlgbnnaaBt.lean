/-
  rank.checkBits, rank.choices, rank.Many; quipuref.Bit, quipuref.Size, quipuref.Many.
-/
import Derived.Test.YtioaohcnlgbnnaaChecked
import Derived.Test.YtioaohcnlgbnnaaOwn
import Derived.Test.YtioaohcnlgbnnaaCho
import Derived.Shelf.Abstract
import Derived.Laws.BitsAllLaws
namespace Go.Proofs.Ytioaohcnlgbnnaa
open Go.RowKit

/-- What is told of a count of bits. -/
def ber (n : Int) : Int := if 0 ≤ n ∧ n ≤ 12 then 0 else 1
theorem ber_ok {n : Int} (h0 : 0 ≤ n) (h1 : n ≤ 12) : ber n = 0 := if_pos ⟨h0, h1⟩
theorem ber_low {n : Int} (h0 : n < 0) : ber n = 1 := if_neg (by omega)
theorem ber_high {n : Int} (h0 : 12 < n) : ber n = 1 := if_neg (by omega)

theorem choose_step {n c : Nat} (hn : n ≤ 12) (hc : c < 12) : wrap64 ((wrap64 ((ch n c : Nat) * ((n : Int) - c))).tdiv ((c : Int) + 1)) = (ch n (c + 1) : Nat) := by
  have b1 := ch_few' hn (show c ≤ 13 by omega)
  have b2 := ch_few' hn (show c + 1 ≤ 13 by omega)
  have nx := ch_next' (n := n) (c := c) hn (by omega)
  rcases Nat.lt_or_ge n c with h | h
  · rw [ch_self n c h, ch_self n (c + 1) (by omega)]
    simp [wrap64]
  · have e1 : ((ch n c : Nat) : Int) * ((n : Int) - c) = ((ch n c * (n - c) : Nat) : Int) := by
      rw [Int.natCast_mul, Int.natCast_sub h]
    have b3 : ch n c * (n - c) ≤ 924 * 12 := Nat.mul_le_mul b1 (by omega)
    rw [e1]
    generalize ch n c * (n - c) = A at *
    rw [IntWalk.wrap64_in (A : Int) (by omega), show ((c : Int) + 1) = ((c + 1 : Nat) : Int) by omega, ← Int.ofNat_tdiv, nx]
    exact IntWalk.wrap64_in _ (by omega)

/-- What rank.Many tells. -/
def mer (n k : Int) : Int := if 0 ≤ n ∧ n ≤ 12 then (if 0 ≤ k ∧ k ≤ n then 0 else 4) else 1

theorem pow_in (i : Nat) (hi : i < 32) : (2 : Int) ^ i % 4294967296 = ((2 ^ i : Nat) : Int) := by
  have h : 2 ^ i < 2 ^ 32 := Nat.pow_lt_pow_right (by omega) hi
  have e : (2 : Int) ^ i = ((2 ^ i : Nat) : Int) := by rw [Int.natCast_pow]; rfl
  rw [e]
  generalize 2 ^ i = M at *
  omega
theorem bit_and (x i : Nat) (hx : x < 4294967296) (hi : i < 32) : (bits BinOp.and IntKind.u32 (x : Int) (2 ^ i % 4294967296) != 0) = x.testBit i := by
  have h : 2 ^ i < 2 ^ 32 := Nat.pow_lt_pow_right (by omega) hi
  rw [pow_in i hi, u32_and_nat x (2 ^ i) hx h]
  cases hb : x.testBit i
  · have : x &&& 2 ^ i = 0 := by
      apply Nat.eq_of_testBit_eq
      intro j
      rw [Nat.testBit_and, Nat.testBit_two_pow, Nat.zero_testBit]
      by_cases e : i = j
      · rw [← e, hb]; rfl
      · simp [e]
    rw [this]; rfl
  · have : x &&& 2 ^ i ≠ 0 := by
      intro e
      have t : (x &&& 2 ^ i).testBit i = true := by rw [Nat.testBit_and, hb, Nat.testBit_two_pow_self]; rfl
      rw [e, Nat.zero_testBit] at t
      cases t
    rw [bne_iff_ne]
    omega

theorem bit_any (x i : Nat) (hx : x < 4294967296) (hi : i < 32) (w : World) : Calls Try.prog 20 #[.int .u32 x, .int .i64 i] w fun e w' => e = .returned (.bool (x.testBit i)) ∧ w' = w := by
  have e := bit_and x i hx hi
  go_enter Try.func20, Try.ntmps20
  go_wp2
  go_ret
  exact ⟨rfl, rfl⟩

theorem size_any (x : Nat) (hx : x < 4294967296) (w : World) : Calls Try.prog 18 #[.int .u32 x] w fun e w' => e = .returned (.int .i64 (pop x : Nat)) ∧ w' = w := by
  have BT : Hid (∀ (i : Nat) W, i < 32 → Calls Try.prog 20 #[.int .u32 x, .int .i64 i] W fun e w' => e = .returned (.bool (x.testBit i)) ∧ w' = W) := fun i W hi => bit_any x i hx hi W
  go_enter Try.func18, Try.ntmps18
  go_wp2
  go_loopg [3, 4] 32 (fun gg s3 s4 wr => ∃ k : Nat, k ≤ 32 ∧ 32 - k ≤ gg ∧ s3 = .int .i64 (popN k x : Nat) ∧ s4 = .int .i64 k ∧ wr = w)
  case atStart => exact ⟨0, Nat.zero_le _, by omega, rfl, rfl, rfl⟩
  case round =>
    obtain ⟨k, hk, hgg, rfl, rfl, rfl⟩ := hrel
    by_cases hlt : k < 32
    · have hltz : (k : Int) < 32 := by omega
      have c1 := BT.out k wr hlt
      have few := popN_le k x
      have nx : Hid (popN (k + 1) x = popN k x + (if x.testBit k then 1 else 0)) := rfl
      generalize popN k x = A at *
      generalize x.testBit k = b at *
      go_wp2_with fail
      refine c1.mono ?_
      rintro e w' ⟨rfl, rfl⟩
      clear c1
      cases b
      · go_wp2
        go_roundg (32 - (k + 1))
        case measure => omega
        case rel => exact ⟨k + 1, by omega, by omega, by rw [nx.out]; rfl, by go_num, rfl⟩
      · go_wp2
        go_roundg (32 - (k + 1))
        case measure => omega
        case rel => exact ⟨k + 1, by omega, by omega, by rw [nx.out]; rfl, by go_num, rfl⟩
    · have hk' : k = 32 := by omega
      subst hk'
      go_wp2
      go_ret
      exact ⟨rfl, rfl⟩

theorem cnt_le (k : Nat) : ∀ b, cnt k b ≤ b
  | 0 => Nat.le_refl 0
  | b + 1 => by
    have := cnt_le k b
    show cnt k b + (if pop b = k then 1 else 0) ≤ b + 1
    split <;> omega

theorem bitsNil_any (n : Int) (w : World) : Calls Try.prog 9 #[.int .i64 n, .slice none 0 0] w fun e w' => e = .returned (.int .i64 (ber n)) ∧ w' = w := by
  rcases Int.lt_or_le n 0 with h | h
  · rw [ber_low h]
    go_enter Try.func9, Try.ntmps9
    go_wp2
    go_ret
    exact ⟨rfl, rfl⟩
  · rcases Int.lt_or_le 12 n with h' | h'
    · rw [ber_high h']
      go_enter Try.func9, Try.ntmps9
      go_wp2
      go_ret
      exact ⟨rfl, rfl⟩
    · rw [ber_ok h h']
      go_enter Try.func9, Try.ntmps9
      go_wp2
      go_loopg [6, 15] 0 (fun _ _ s wr => s = .int .i64 0 ∧ wr = w)
      case atStart => exact ⟨rfl, rfl⟩
      case round =>
        obtain ⟨rfl, rfl⟩ := hrel
        go_wp2
        go_ret
        exact ⟨rfl, rfl⟩

end Go.Proofs.Ytioaohcnlgbnnaa
