/-
  How many digits a number has, plain.
-/
import Derived.Lib.BitFns
namespace Go.Proofs.YtdfjjjcaibadoabDoor

/-- How many digits a number has. -/
def nd (n : Nat) : Nat := if n = 0 then 0 else n.log2 + 1
theorem nd_zero : nd 0 = 0 := rfl
theorem nd_half (n : Nat) (h : n ≠ 0) : nd n = nd (n / 2) + 1 := by
  unfold nd
  rw [if_neg h, Nat.log2_def]
  by_cases h2 : n ≥ 2
  · rw [if_pos h2, if_neg (by omega)]
  · rw [if_neg h2, if_pos (by omega)]
theorem nd_pos {n : Nat} (h : n ≠ 0) : 0 < nd n := by rw [nd_half n h]; omega
theorem nd_lt (n : Nat) : n < 2 ^ nd n := by
  unfold nd
  split
  · subst_vars; simp
  · exact Nat.lt_log2_self
theorem nd_le {n : Nat} (h : n ≠ 0) : 2 ^ (nd n - 1) ≤ n := by
  unfold nd
  rw [if_neg h]
  simpa using Nat.log2_self_le h
theorem nd_of {n k : Nat} (h1 : 2 ^ k ≤ n) (h2 : n < 2 ^ (k + 1)) : nd n = k + 1 := by
  have h0 : n ≠ 0 := by
    have := Nat.two_pow_pos k
    omega
  unfold nd
  rw [if_neg h0, (Nat.log2_eq_iff h0).2 ⟨h1, h2⟩]
theorem nd_below {n k : Nat} (h : n < 2 ^ k) : nd n ≤ k := by
  by_cases h0 : n = 0
  · subst h0; simp [nd_zero]
  · rcases Nat.lt_or_ge k (nd n) with h' | h'
    · have h1 := nd_le h0
      have h2 : 2 ^ k ≤ 2 ^ (nd n - 1) := Nat.pow_le_pow_right (by omega) (by omega)
      omega
    · exact h'
theorem nd_mono {n m : Nat} (h : n ≤ m) : nd n ≤ nd m := nd_below (Nat.lt_of_le_of_lt h (nd_lt m))
theorem nd_21 {n : Nat} (h : n ≤ 1048576) : nd n ≤ 21 := nd_below (by omega)
theorem bitLen_nd : ∀ (k n : Nat), n < 2 ^ k → k ≤ 64 → Lib.bitLen n = nd n
  | 0, n, h, _ => by
    have : n = 0 := by simpa using h
    subst this
    rfl
  | k + 1, n, h, hk => by
    by_cases h0 : n = 0
    · subst h0; rfl
    · have hp : 2 ^ (k + 1) ≤ 2 ^ 64 := Nat.pow_le_pow_right (by omega) hk
      rw [Lib.bitLen_half n h0 (by omega), nd_half n h0, bitLen_nd k (n / 2) (by rw [Nat.pow_succ] at h; omega) (by omega)]
      omega

/-- So many digits less, once halved so often. -/
theorem nd_shift : ∀ (k n : Nat), 2 ^ k ≤ n → nd n = k + nd (n / 2 ^ k)
  | 0, n, _ => by simp
  | k + 1, n, h => by
    have hp := Nat.two_pow_pos k
    rw [Nat.pow_succ] at h
    rw [nd_half n (by omega), nd_shift k (n / 2) (by omega), Nat.div_div_eq_div_mul, Nat.pow_succ, Nat.mul_comm 2]
    omega
/-- What the table of all bytes holds. -/
theorem tab_nd (q : Nat) (hq : q < 256) : Lib.len8 (q : Int) = (nd q : Int) := by
  rw [Lib.len8_of _ (by omega) (by omega), Int.toNat_natCast, bitLen_nd 8 q hq (by omega)]

end Go.Proofs.YtdfjjjcaibadoabDoor
