/-
  rest.check, quipuref.RestCheck, rest.degreeOf, quipuref.Degree.
-/
import Derived.Test.YtfngcoijbnhheaaLn
import Derived.Test.YtfngcoijbnhheaaBt
import Derived.Test.YtfngcoijbnhheaaPol
import Derived.RegionTactic
namespace Go.Proofs.Ytfngcoijbnhheaa
open Go.RowKit
set_option linter.unusedVariables false

/-- What is told of a polynomial and so many bits. -/
def rce (g n : Nat) : Int := if g % 2 = 0 ∨ g = 1 ∨ 131071 < g then 4 else if 64 < n then 1 else 0
theorem rce_range {g n : Nat} (h : g % 2 = 0 ∨ g = 1 ∨ 131071 < g) : rce g n = 4 := if_pos h
theorem rce_large {g n : Nat} (h : ¬ (g % 2 = 0 ∨ g = 1 ∨ 131071 < g)) (h2 : 64 < n) : rce g n = 1 := by unfold rce; rw [if_neg h, if_pos h2]
theorem rce_ok {g n : Nat} (h : ¬ (g % 2 = 0 ∨ g = 1 ∨ 131071 < g)) (h2 : ¬ 64 < n) : rce g n = 0 := by unfold rce; rw [if_neg h, if_neg h2]
theorem G_of {g : Nat} (h : ¬ (g % 2 = 0 ∨ g = 1 ∨ 131071 < g)) : G g := by
  refine ⟨?_, by omega, by omega⟩
  rw [Nat.testBit_zero, decide_eq_true_eq]
  omega
theorem rce_cases (g n : Nat) : rce g n = 4 ∨ rce g n = 1 ∨ (rce g n = 0 ∧ G g ∧ n ≤ 64) := by
  by_cases h : g % 2 = 0 ∨ g = 1 ∨ 131071 < g
  · exact .inl (rce_range h)
  · by_cases h2 : 64 < n
    · exact .inr (.inl (rce_large h h2))
    · exact .inr (.inr ⟨rce_ok h h2, G_of h, by omega⟩)

theorem and_one32 (g : Nat) (hg : g < 4294967296) : bits BinOp.and IntKind.u32 (g : Int) 1 = ((g % 2 : Nat) : Int) := by
  have := u32_and_nat g 1 hg (by omega)
  rw [Nat.and_one_is_mod] at this
  exact this

theorem check_any (g : Nat) (hg : g < 4294967296) (a : Option Addr) (n c : Nat) (w : World) : Calls Try.prog 21 #[.int .u32 g, .slice a n c] w fun e w' => e = .returned (.int .i64 (rce g n)) ∧ w' = w := by
  have e := and_one32 g hg
  by_cases h1 : g % 2 = 0
  · rw [rce_range (.inl h1)]
    rw [h1] at e
    go_enter Try.func21, Try.ntmps21
    go_wp2
    go_ret
    exact ⟨rfl, rfl⟩
  have h1' : g % 2 = 1 := by omega
  rw [h1'] at e
  by_cases h2 : g = 1
  · rw [rce_range (.inr (.inl h2))]
    subst h2
    go_enter Try.func21, Try.ntmps21
    go_wp2
    go_ret
    exact ⟨rfl, rfl⟩
  have h2' : ¬ (g : Int) = 1 := by omega
  by_cases h3 : 131071 < g
  · rw [rce_range (.inr (.inr h3))]
    have h3' : (131071 : Int) < (g : Int) := by omega
    go_enter Try.func21, Try.ntmps21
    go_wp2
    go_ret
    exact ⟨rfl, rfl⟩
  have h3' : ¬ (131071 : Int) < (g : Int) := by omega
  by_cases h4 : 64 < n
  · rw [rce_large (by omega) h4]
    have h4' : (64 : Int) < (n : Int) := by omega
    go_enter Try.func21, Try.ntmps21
    go_wp2
    go_ret
    exact ⟨rfl, rfl⟩
  · rw [rce_ok (by omega) h4]
    have h4' : ¬ (64 : Int) < (n : Int) := by omega
    go_enter Try.func21, Try.ntmps21
    go_wp2
    go_ret
    exact ⟨rfl, rfl⟩

/-- The greatest of the first k bits that is set, or 0. -/
def hb (g : Nat) : Nat → Nat
  | 0 => 0
  | k + 1 => if g.testBit k then k else hb g k
theorem hb_le (g : Nat) : ∀ k, hb g k ≤ k
  | 0 => Nat.le_refl 0
  | k + 1 => by
    have := hb_le g k
    unfold hb
    split <;> omega
theorem hb_log {g : Nat} : ∀ k, g < 2 ^ k → hb g k = g.log2
  | 0, h => by
    obtain rfl : g = 0 := by simpa using h
    rfl
  | k + 1, h => by
    show (if g.testBit k then k else hb g k) = _
    by_cases hb' : g.testBit k = true
    · rw [if_pos hb']
      have h1 : 2 ^ k ≤ g := Nat.ge_two_pow_of_testBit hb'
      have h0 : g ≠ 0 := by
        have := Nat.two_pow_pos k
        omega
      exact ((Nat.log2_eq_iff h0).2 ⟨h1, h⟩).symm
    · rw [if_neg hb']
      refine hb_log k (lt_of_bits (fun i hi => ?_))
      by_cases e : i = k
      · rw [e]; simpa using hb'
      · exact Nat.testBit_lt_two_pow (Nat.lt_of_lt_of_le h (Nat.pow_le_pow_right (by omega) (by omega)))

theorem refDegree_any (g : Nat) (hg : g < 4294967296) (w : World) : Calls Try.prog 24 #[.int .u32 g] w fun e w' => e = .returned (.int .i64 (g.log2 : Nat)) ∧ w' = w := by
  have BT : Hid (∀ (i : Nat) W, i < 32 → Calls Try.prog 25 #[.int .u32 g, .int .i64 i] W fun e w' => e = .returned (.bool (g.testBit i)) ∧ w' = W) := fun i W hi => bit_any g i hg hi W
  have e0 : g.log2 = hb g 32 := (hb_log 32 (by omega)).symm
  rw [e0]
  clear e0
  go_enter Try.func24, Try.ntmps24
  go_wp2
  go_loopg [3, 4] 32 (fun gg s3 s4 wr => ∃ k : Nat, k ≤ 32 ∧ 32 - k ≤ gg ∧ s3 = .int .i64 (hb g k : Nat) ∧ s4 = .int .i64 k ∧ wr = w)
  case atStart => exact ⟨0, Nat.zero_le _, by omega, rfl, rfl, rfl⟩
  case round =>
    obtain ⟨k, hk, hgg, rfl, rfl, rfl⟩ := hrel
    by_cases hlt : k < 32
    · have hltz : (k : Int) < 32 := by omega
      have c1 := BT.out k wr hlt
      have nx : Hid (hb g (k + 1) = if g.testBit k then k else hb g k) := rfl
      generalize hb g k = A at *
      generalize g.testBit k = b at *
      go_wp2_with fail
      refine c1.mono ?_
      rintro e w' ⟨rfl, rfl⟩
      clear c1
      cases b
      · go_wp2
        go_roundg (32 - (k + 1))
        case measure => omega
        case rel => exact ⟨k + 1, by omega, by omega, by rw [nx.out]; rfl, by go_num, rfl⟩
      · go_wp2
        go_roundg (32 - (k + 1))
        case measure => omega
        case rel => exact ⟨k + 1, by omega, by omega, by rw [nx.out]; rfl, by go_num, rfl⟩
    · have hk' : k = 32 := by omega
      subst hk'
      go_wp2
      go_ret
      exact ⟨rfl, rfl⟩

theorem bitLen_log {g : Nat} (h0 : g ≠ 0) (hg : g < 4294967296) : Lib.bitLen g = g.log2 + 1 := by
  have h32 : g.log2 < 32 := (Nat.log2_lt h0).2 (by omega)
  have h1 := (bitLen_above (x := g) (n := g.log2) (by omega) hg).2 (Nat.log2_self_le h0)
  have h2 : ¬ g.log2 + 1 < Lib.bitLen g := fun h => by
    have := (bitLen_above (x := g) (n := g.log2 + 1) (by omega) hg).1 h
    have := @Nat.lt_log2_self g
    omega
  omega

theorem degreeOf_any (g : Nat) (h0 : g ≠ 0) (hg : g < 4294967296) (w : World) : Calls Try.prog 22 #[.int .u32 g] w fun e w' => e = .returned (.int .i64 (g.log2 : Nat)) ∧ w' = w := by
  have c := len32_any g hg w
  rw [bitLen_log h0 hg] at c
  have h32 : g.log2 < 32 := (Nat.log2_lt h0).2 (by omega)
  generalize g.log2 = d at *
  go_enter Try.func22, Try.ntmps22
  go_wp2_with (go_at_call 28; refine c.mono ?_; rintro e w2 ⟨rfl, rfl⟩)
  go_ret
  exact ⟨ret_int (by omega), rfl⟩

end Go.Proofs.Ytfngcoijbnhheaa
