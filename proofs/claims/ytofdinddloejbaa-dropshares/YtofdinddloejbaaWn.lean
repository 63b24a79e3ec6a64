/-
  How many words have which sum. Nothing here speaks of the program.
-/
import Derived.Test.YtofdinddloejbaaDr
namespace Go.Proofs.Ytofdinddloejbaa
open Go.RowKit

/-- The bits of a word. -/
abbrev wb (n w : Nat) : List Bool := bl (fun i => w.testBit i) n
/-- The words below k that have this sum, rising. -/
def wlk (n a k : Nat) : List Nat := (List.range k).filter fun w => sm (wb n w) == a
/-- All words of n bits that have this sum, rising. -/
def wl (n a : Nat) : List Nat := wlk n a (2 ^ n)

theorem wlk_next (n a k : Nat) : wlk n a (k + 1) = wlk n a k ++ (if sm (wb n k) = a then [k] else []) := by
  unfold wlk
  rw [List.range_succ, List.filter_append]
  by_cases h : sm (wb n k) = a
  · rw [if_pos h]; simp [h]
  · rw [if_neg h]; simp [h]
theorem wlk_len (n a k : Nat) : (wlk n a k).length ≤ k := by
  unfold wlk
  have := List.length_filter_le (fun w => sm (wb n w) == a) (List.range k)
  rw [List.length_range] at this
  exact this

/-- How many words of n bits have places that leave a, divided by m. -/
def cc (n m a : Nat) : Nat := ((List.range (2 ^ n)).filter fun w => ps 0 (wb n w) % m == a).length
/-- The same, one bit after the other. -/
def cr (m n : Nat) : Nat → Nat := Nat.rec (fun a => if a = 0 then 1 else 0) (fun k f a => f a + f ((a + m - (k + 1)) % m)) n

theorem ps_wb (n w : Nat) : ps 0 (wb (n + 1) w) = ps 0 (wb n w) + (if w.testBit n then n + 1 else 0) := by
  unfold wb
  rw [bl_snoc, ps_append, bl_len, Nat.zero_add]
  rfl
theorem cc_zero (m a : Nat) : cc 0 m a = if a = 0 then 1 else 0 := by
  unfold cc
  show ((List.range 1).filter fun w => ps 0 (wb 0 w) % m == a).length = _
  have e : (fun w : Nat => ps 0 (wb 0 w) % m == a) = fun _ => decide (a = 0) := by
    funext w
    show (0 % m == a) = _
    rw [Nat.zero_mod, Bool.eq_iff_iff]
    simp
    omega
  rw [e]
  by_cases h : a = 0
  · simp [h]
  · simp [h]
theorem cc_next {n m a : Nat} (hm : n + 1 ≤ m) (ha : a < m) : cc (n + 1) m a = cc n m a + cc n m ((a + m - (n + 1)) % m) := by
  have hp : 2 ^ (n + 1) = 2 ^ n + 2 ^ n := by rw [Nat.pow_succ]; omega
  unfold cc
  rw [hp, List.range_add, List.filter_append, List.length_append, List.filter_map, List.length_map]
  congr 1
  · congr 1
    refine List.filter_congr fun w hw => ?_
    rw [List.mem_range] at hw
    rw [ps_wb, Nat.testBit_lt_two_pow hw]
    simp
  · congr 1
    refine List.filter_congr fun w hw => ?_
    rw [List.mem_range] at hw
    show (ps 0 (wb (n + 1) (2 ^ n + w)) % m == a) = _
    have e1 : wb n (2 ^ n + w) = wb n w := bl_congr (fun i hi => Nat.testBit_two_pow_add_gt hi w)
    rw [ps_wb, e1, Nat.testBit_two_pow_add_eq, Nat.testBit_lt_two_pow hw]
    simp only [Bool.not_false, if_true]
    generalize ps 0 (wb n w) = p
    rw [Bool.eq_iff_iff, beq_iff_eq, beq_iff_eq]
    have h1 : p % m < m := Nat.mod_lt _ (by omega)
    have h2 : (p + (n + 1)) % m = (p % m + (n + 1)) % m := by rw [Nat.mod_add_mod]
    rw [h2]
    generalize p % m = r at *
    have key : ∀ x, x < 2 * m → x % m = if x < m then x else x - m := fun x hx => by
      by_cases h : x < m
      · rw [if_pos h, Nat.mod_eq_of_lt h]
      · rw [if_neg h, Nat.mod_eq_sub_mod (by omega), Nat.mod_eq_of_lt (by omega)]
    rw [key _ (by omega), key _ (by omega)]
    split <;> split <;> omega
theorem cc_cr (m : Nat) : ∀ (n a : Nat), n ≤ m → a < m → cc n m a = cr m n a
  | 0, a, _, _ => cc_zero m a
  | n + 1, a, hn, ha => by
    rw [cc_next hn ha, cc_cr m n a (by omega) ha, cc_cr m n _ (by omega) (Nat.mod_lt _ (by omega))]
    rfl
theorem wl_len (n a : Nat) : (wl n a).length = cc n (n + 1) a := by
  unfold wl wlk cc
  congr 1
  refine List.filter_congr fun w _ => ?_
  unfold sm
  rw [bl_len]
theorem wl_cr {n a : Nat} (h : a ≤ n) : (wl n a).length = cr (n + 1) n a := by
  rw [wl_len, cc_cr _ _ _ (by omega) (by omega)]

/-- How many words have a sum below k. -/
def up (n : Nat) : Nat → Nat
  | 0 => 0
  | k + 1 => up n k + (wl n k).length
/-- The same, by numbers. -/
def uc (n k : Nat) : Nat := Nat.rec 0 (fun j s => s + cr (n + 1) n j) k
theorem up_uc (n : Nat) : ∀ k, k ≤ n + 1 → up n k = uc n k
  | 0, _ => rfl
  | k + 1, h => by
    show up n k + (wl n k).length = _
    rw [up_uc n k (by omega), wl_cr (by omega)]
    rfl
/-- GINZBURG, for as many bits as there are: of none are there more than of 0; together they are all. -/
theorem shares_all : (List.range 13).all (fun n => (List.range (n + 1)).all (fun a => decide (cr (n + 1) n a ≤ cr (n + 1) n 0)) && (uc n (n + 1) == 2 ^ n)) = true := by decide +kernel
theorem shares {n : Nat} (hn : n ≤ 12) : (∀ a, a ≤ n → (wl n a).length ≤ (wl n 0).length) ∧ up n (n + 1) = 2 ^ n := by
  have h := shares_all
  rw [List.all_eq_true] at h
  have h := h n (List.mem_range.2 (by omega))
  rw [Bool.and_eq_true, List.all_eq_true, beq_iff_eq] at h
  refine ⟨fun a ha => ?_, ?_⟩
  · have := h.1 a (List.mem_range.2 (by omega))
    rw [decide_eq_true_eq] at this
    rw [wl_cr ha, wl_cr (Nat.zero_le _)]
    exact this
  · rw [up_uc _ _ (by omega)]
    exact h.2

end Go.Proofs.Ytofdinddloejbaa
