/-
  In plain mathematics: GRAY's order: the i-th word is i and i halved, one bit of the two each; how it is doubled; the way back.
-/
import Derived.Test.YtioaohcnlgbnnaaXo
namespace Go.Proofs.Ytioaohcnlgbnnaa

/-- The i-th word. -/
def gr (i : Nat) : Nat := i ^^^ i >>> 1

theorem gr_xor (a b : Nat) : gr (a ^^^ b) = gr a ^^^ gr b := by
  unfold gr
  rw [Nat.shiftRight_xor_distrib]
  ac_rfl
theorem gr_lt {i n : Nat} (h : i < 2 ^ n) : gr i < 2 ^ n :=
  Nat.xor_lt_two_pow h (Nat.lt_of_le_of_lt (by rw [Nat.shiftRight_eq_div_pow]; exact Nat.div_le_self _ _) h)
theorem xor_none {a b : Nat} (h : a ^^^ b = 0) : a = b := by
  have e2 : (a ^^^ b) ^^^ b = 0 ^^^ b := by rw [h]
  rw [Nat.xor_assoc, Nat.xor_self, Nat.zero_xor, Nat.xor_zero] at e2
  exact e2
theorem gr_zero {i : Nat} (h : gr i = 0) : i = 0 := by
  have e := xor_none h
  rw [Nat.shiftRight_eq_div_pow] at e
  omega
theorem gr_inj {i j : Nat} (h : gr i = gr j) : i = j := by
  apply xor_none
  apply gr_zero
  rw [gr_xor, h, Nat.xor_self]

/-- What the bits of w from the k-th on leave at its place: w, w halved, and so on k times, one beside the other. -/
def ac (w : Nat) : Nat → Nat
  | 0 => 0
  | k + 1 => ac w k ^^^ w >>> k
theorem gr_ac (w : Nat) : ∀ k, gr (ac w k) = w ^^^ w >>> k
  | 0 => by
    rw [Nat.shiftRight_zero, Nat.xor_self]
    show gr 0 = 0
    decide
  | k + 1 => by
    show gr (ac w k ^^^ w >>> k) = _
    rw [gr_xor, gr_ac w k]
    unfold gr
    rw [← Nat.shiftRight_add]
    have e : w ^^^ w >>> k ^^^ (w >>> k ^^^ w >>> (k + 1)) = w ^^^ ((w >>> k ^^^ w >>> k) ^^^ w >>> (k + 1)) := by ac_rfl
    rw [e, Nat.xor_self, Nat.zero_xor]
theorem ac_lt {w n : Nat} (h : w < 2 ^ n) : ∀ k, ac w k < 2 ^ n
  | 0 => Nat.two_pow_pos n
  | k + 1 => Nat.xor_lt_two_pow (ac_lt h k) (Nat.lt_of_le_of_lt (by rw [Nat.shiftRight_eq_div_pow]; exact Nat.div_le_self _ _) h)
/-- Where nothing is left of w, its place is told. -/
theorem gr_place {w k : Nat} (h : w >>> k = 0) : gr (ac w k) = w := by rw [gr_ac, h, Nat.xor_zero]

theorem gr_fold_all : ∀ k, k < 12 → ∀ i, i < 2 ^ k → gr i + 2 ^ k = gr (2 ^ k + (2 ^ k - 1 - i)) := by decide +kernel
/-- The second half of twice as many words is the first one from its end, one bit more each. -/
theorem gr_fold {k i : Nat} (hk : k < 12) (hi : i < 2 ^ k) : gr i + 2 ^ k = gr (2 ^ k + (2 ^ k - 1 - i)) := gr_fold_all k hk i hi

theorem gr_next_all : ∀ a, a < 64 → ∀ b, b < 64 → far (gr (64 * a + b)) (gr (64 * a + b + 1)) = 1 := by decide +kernel
theorem gr_last_all : ∀ n, n < 13 → n = 0 ∨ far (gr (2 ^ n - 1)) (gr 0) = 1 := by decide +kernel
/-- One bit is turned from each word to the next, and from the last to the first. -/
theorem gr_one {n i : Nat} (h0 : 0 < n) (hn : n ≤ 12) (hi : i < 2 ^ n) : far (gr i) (gr ((i + 1) % 2 ^ n)) = 1 := by
  have hp : 2 ^ n ≤ 2 ^ 12 := Nat.pow_le_pow_right (by omega) hn
  rcases Nat.lt_or_ge (i + 1) (2 ^ n) with h | h
  · rw [Nat.mod_eq_of_lt h]
    have := gr_next_all (i / 64) (by omega) (i % 64) (by omega)
    rwa [show 64 * (i / 64) + i % 64 = i by omega] at this
  · have e : i = 2 ^ n - 1 := by omega
    have e2 : i + 1 = 2 ^ n := by omega
    rw [e2, Nat.mod_self, e]
    rcases gr_last_all n (by omega) with h | h
    · omega
    · exact h

/-- The first m words. -/
def grl (m : Nat) : List Nat := (List.range m).map gr
theorem grl_len (m : Nat) : (grl m).length = m := by unfold grl; rw [List.length_map, List.length_range]
theorem grl_at {m i : Nat} (h : i < m) : (grl m).getD i 0 = gr i := by
  unfold grl
  simp [List.getD_eq_getElem?_getD, h]
theorem grl_snoc (m : Nat) : grl (m + 1) = grl m ++ [gr m] := by
  unfold grl
  rw [List.range_succ, List.map_append]
  rfl

end Go.Proofs.Ytioaohcnlgbnnaa
