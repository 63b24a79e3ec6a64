/-
  rank.Rank.
-/
import Derived.Test.YtencpkmojjbjcaaBt
import Derived.Test.YtencpkmojjbjcaaOn
namespace Go.Proofs.Ytencpkmojjbjcaa
open Go.RowKit

/-- What rank.Rank tells. -/
def rer (n : Int) (x : Nat) : Int := if 0 ≤ n ∧ n ≤ 12 then (if x < 2 ^ n.toNat then 0 else 4) else 1

theorem bit_shr (x b : Nat) (hx : x < 4294967296) : bits BinOp.and IntKind.u32 ((x : Int) / 2 ^ b) 1 = if x.testBit b then 1 else 0 := by
  have e1 : (x : Int) / 2 ^ b = ((x / 2 ^ b : Nat) : Int) := by
    rw [Int.natCast_ediv, Int.natCast_pow]; rfl
  have h : x / 2 ^ b ≤ x := Nat.div_le_self _ _
  have e2 := u32_and_nat (x / 2 ^ b) 1 (by omega) (by omega)
  rw [show ((1 : Nat) : Int) = 1 from rfl] at e2
  rw [e1, e2, Nat.and_one_is_mod]
  have h0 := Nat.testBit_eq_decide_div_mod_eq (x := x) (i := b)
  rw [h0]
  by_cases c : x / 2 ^ b % 2 = 1
  · simp [c]
  · rw [show x / 2 ^ b % 2 = 0 by omega]; simp

theorem rank_step {x b less k R : Nat} (h : less + cnt k (x % 2 ^ (b + 1)) = R ∧ k = pop (x % 2 ^ (b + 1))) (hb : b < 12) :
    (x.testBit b = true → 1 ≤ k ∧ (less + ch b k + cnt (k - 1) (x % 2 ^ b) = R ∧ k - 1 = pop (x % 2 ^ b))) ∧ (x.testBit b = false → (less + cnt k (x % 2 ^ b) = R ∧ k = pop (x % 2 ^ b))) := by
  obtain ⟨h1, h2⟩ := h
  constructor
  · intro t
    have hl : x % 2 ^ b < 2 ^ b := Nat.mod_lt _ (Nat.pow_pos (by omega))
    rw [rank_bit t] at h1 h2
    rw [pop_top (by omega) hl] at h2
    rw [cnt_step (by omega) (by omega), if_neg (by omega)] at h1
    exact ⟨by omega, by omega, by omega⟩
  · intro t
    rw [rank_no t] at h1 h2
    exact ⟨h1, h2⟩

theorem rank_good (n x : Nat) (hn : n ≤ 12) (hx : x < 2 ^ n) (w : World) : Calls Try.prog 12 #[.int .i64 n, .int .u32 x] w fun e w' => e = .returned (.tuple #[.int .i64 (cnt (pop x) x : Nat), .int .i64 0]) ∧ Ext w w' := by
  have c0 := checkBits_any n w
  rw [ber_ok (by omega) (by omega)] at c0
  have hM : 2 ^ n ≤ 2 ^ 12 := Nat.pow_le_pow_right (by omega) hn
  have hx4 : x < 4096 := by omega
  have c1 := len32_any x (by omega) w
  have hl : ¬ (n < Lib.bitLen x) := by rw [bitLen_above (by omega) (by omega)]; omega
  have c2 := ones_any x (by omega) w
  have CH : Hid (∀ (b k : Nat) W, b ≤ 12 → k ≤ 12 → Calls Try.prog 25 #[.int .i64 b, .int .i64 k] W fun e w' => e = .returned (.int .i64 (ch b k : Nat)) ∧ w' = W) := fun b k W hb hk => choices_any b k hb hk W
  have SH : Hid (∀ b : Nat, bits BinOp.and IntKind.u32 ((x : Int) / 2 ^ b) 1 = if x.testBit b then 1 else 0) := fun b => bit_shr x b (by omega)
  have pl : pop x ≤ 12 := Nat.le_trans (pop_le hx (by omega)) hn
  obtain ⟨R, hR⟩ : ∃ R, cnt (pop x) x = R := ⟨_, rfl⟩
  have few : R ≤ 4096 := by have := cnt_le (pop x) x; omega
  have A0 : Hid (0 + cnt (pop x) (x % 2 ^ n) = R ∧ pop x = pop (x % 2 ^ n)) := by rw [Nat.mod_eq_of_lt hx]; exact ⟨by omega, rfl⟩
  have STEP : Hid (∀ b less k, (less + cnt k (x % 2 ^ (b + 1)) = R ∧ k = pop (x % 2 ^ (b + 1))) → b < 12 → (x.testBit b = true → 1 ≤ k ∧ (less + ch b k + cnt (k - 1) (x % 2 ^ b) = R ∧ k - 1 = pop (x % 2 ^ b))) ∧ (x.testBit b = false → (less + cnt k (x % 2 ^ b) = R ∧ k = pop (x % 2 ^ b)))) := fun b less k h hb => rank_step h hb
  rw [hR]
  have PX : Hid (∃ p, p = pop x) := ⟨_, rfl⟩
  clear hR hM hx
  obtain ⟨p, hp⟩ := PX.out
  rw [← hp] at c2 pl A0
  clear hp PX
  generalize Lib.bitLen x = bl at *
  go_enter Try.func12, Try.ntmps12
  go_wp2_with fail
  refine c0.mono ?_
  rintro e w' ⟨rfl, rfl⟩
  clear c0
  go_wp2_with fail
  refine c1.mono ?_
  rintro e w' ⟨rfl, rfl⟩
  clear c1
  go_wp2_with fail
  refine c2.mono ?_
  rintro e w2 ⟨rfl, hw⟩
  have E2 : Hid (Ext w' w2) := by obtain ⟨d, rfl⟩ := hw; exact (Ext.refl _).drewN d
  clear c2 hw
  go_wp2
  go_loopg [7, 8, 9] n (fun gg s7 s8 s9 wr => ∃ b less k : Nat, b ≤ n ∧ b ≤ gg ∧ k ≤ 12 ∧ less ≤ 4096 ∧ s7 = .int .i64 less ∧ s8 = .int .i64 k ∧ s9 = .int .i64 ((b : Int) - 1) ∧ wr = w2 ∧ Aside (less + cnt k (x % 2 ^ b) = R ∧ k = pop (x % 2 ^ b)))
  case atStart => exact ⟨n, 0, p, Nat.le_refl _, Nat.le_refl _, by omega, by omega, rfl, rfl, rfl, rfl, A0.out⟩
  case round =>
    obtain ⟨b, less, k, hb, hgg, hk, hls, rfl, rfl, h9, rfl, A⟩ := hrel
    cases b with
    | zero =>
      have e : less = R := by
        have := A.out.1
        rw [Nat.pow_zero, Nat.mod_one] at this
        exact this
      subst e
      have h9' : u9 = .int .i64 (-1) := h9
      subst h9'
      clear h9 STEP A A0 CH SH
      go_wp2
      go_ret2
      exact ⟨rfl, E2.out⟩
    | succ B =>
      have h9' : u9 = .int .i64 (B : Int) := by rw [h9]; congr 1; omega
      subst h9'
      obtain ⟨s1, s2⟩ := STEP.out B less k A.out (by omega)
      have sh := SH.out B
      have fw := ch_few' (n := B) (c := k) (by omega) (by omega)
      have c1 := CH.out B k wr (by omega) hk
      have S1 : Hid _ := s1
      have S2 : Hid _ := s2
      clear s1 s2 h9 A STEP A0 SH CH
      cases ht : x.testBit B
      · rw [ht] at sh
        have S := S2.out ht
        have SA : Hid _ := S
        clear S S1 S2 ht c1
        simp only [Bool.false_eq_true, if_false] at sh
        go_wp2
        go_roundg B
        case measure => omega
        case rel => exact ⟨B, less, k, by omega, by omega, by omega, by omega, rfl, rfl, by go_num, rfl, SA.out⟩
      · rw [ht] at sh
        obtain ⟨k1, S⟩ := S1.out ht
        have hb2 : less + ch B k ≤ 4096 := by omega
        have SA : Hid _ := S
        clear S S1 S2 ht
        simp only [if_true] at sh
        obtain ⟨D, hD⟩ : ∃ D, ch B k = D := ⟨_, rfl⟩
        rw [hD] at c1 fw hb2 SA
        clear hD
        go_wp2_with fail
        refine c1.mono ?_
        rintro e w3 ⟨rfl, rfl⟩
        clear c1
        go_wp2
        go_roundg B
        case measure => omega
        case rel => exact ⟨B, less + D, k - 1, by omega, by omega, by omega, by omega, by go_num, by go_num, by go_num, rfl, SA.out⟩

theorem rank_bad (n : Int) (x : Nat) (hx : x < 4294967296) (h : rer n x ≠ 0) (w : World) : Calls Try.prog 12 #[.int .i64 n, .int .u32 x] w fun e w' => e = .returned (.tuple #[.int .i64 0, .int .i64 (rer n x)]) ∧ w' = w := by
  have c0 := checkBits_any n w
  unfold rer at *
  by_cases hn : 0 ≤ n ∧ n ≤ 12
  · rw [if_pos hn] at h ⊢
    obtain ⟨N, rfl⟩ : ∃ N : Nat, n = N := ⟨n.toNat, by omega⟩
    rw [ber_ok hn.1 hn.2] at c0
    simp only [Int.toNat_natCast] at h ⊢
    by_cases hl : x < 2 ^ N
    · rw [if_pos hl] at h; exact absurd rfl h
    · rw [if_neg hl]
      have c1 := len32_any x hx w
      have hb : N < Lib.bitLen x := by rw [bitLen_above (by omega) (by omega)]; omega
      clear h
      generalize Lib.bitLen x = bl at *
      go_enter Try.func12, Try.ntmps12
      go_wp2_with fail
      refine c0.mono ?_
      rintro e w' ⟨rfl, rfl⟩
      go_wp2_with fail
      refine c1.mono ?_
      rintro e w' ⟨rfl, rfl⟩
      go_wp2
      go_ret2
      exact ⟨rfl, rfl⟩
  · rw [if_neg hn]
    have e1 : ber n = 1 := if_neg hn
    rw [e1] at c0
    clear h
    go_enter Try.func12, Try.ntmps12
    go_wp2_with fail
    refine c0.mono ?_
    rintro e w' ⟨rfl, rfl⟩
    go_wp2
    go_ret2
    exact ⟨rfl, rfl⟩

end Go.Proofs.Ytencpkmojjbjcaa
