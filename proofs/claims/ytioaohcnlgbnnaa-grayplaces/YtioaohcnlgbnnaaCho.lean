/-
  In plain mathematics: how many bits of a word are 1, how many words below some number have so many, the ways to choose, and the word that is so many-th.
-/
import Derived.Test.YtioaohcnlgbnnaaChecked
namespace Go.Proofs.Ytioaohcnlgbnnaa

/-- How many of the first m bits are 1. -/
def popN : Nat → Nat → Nat
  | 0, _ => 0
  | m + 1, w => popN m w + (if w.testBit m then 1 else 0)

/-- How many bits are 1. -/
def pop (w : Nat) : Nat := popN 32 w

/-- How many words below b have k bits that are 1. -/
def cnt (k : Nat) : Nat → Nat
  | 0 => 0
  | b + 1 => cnt k b + (if pop b = k then 1 else 0)

/-- The ways to choose k of n. -/
def ch : Nat → Nat → Nat
  | _, 0 => 1
  | 0, _ + 1 => 0
  | n + 1, k + 1 => ch n k + ch n (k + 1)

theorem ch_zero (n : Nat) : ch n 0 = 1 := by cases n <;> rfl
theorem ch_self : ∀ n k, n < k → ch n k = 0
  | 0, 0, h => by omega
  | 0, k + 1, _ => rfl
  | n + 1, 0, h => by omega
  | n + 1, k + 1, h => by
    show ch n k + ch n (k + 1) = 0
    rw [ch_self n k (by omega), ch_self n (k + 1) (by omega)]
theorem ch_same : ∀ n, ch n n = 1
  | 0 => rfl
  | n + 1 => by
    show ch n n + ch n (n + 1) = 1
    rw [ch_same n, ch_self n (n + 1) (by omega)]

theorem ch_next : ∀ n : Fin 13, ∀ c : Fin 13, ch n.val c.val * (n.val - c.val) / (c.val + 1) = ch n.val (c.val + 1) := by decide +kernel
theorem ch_few : ∀ n : Fin 13, ∀ c : Fin 14, ch n.val c.val ≤ 924 := by decide +kernel
theorem ch_next' {n c : Nat} (hn : n ≤ 12) (hc : c ≤ 12) : ch n c * (n - c) / (c + 1) = ch n (c + 1) := ch_next ⟨n, by omega⟩ ⟨c, by omega⟩
theorem ch_few' {n c : Nat} (hn : n ≤ 12) (hc : c ≤ 13) : ch n c ≤ 924 := ch_few ⟨n, by omega⟩ ⟨c, by omega⟩

theorem popN_le : ∀ m w, popN m w ≤ m
  | 0, _ => Nat.le_refl 0
  | m + 1, w => by
    have := popN_le m w
    unfold popN
    split <;> omega

theorem popN_of_lt {n w : Nat} (h : w < 2 ^ n) : ∀ m, n ≤ m → popN m w = popN n w := by
  intro m hm
  induction m with
  | zero => rw [show n = 0 by omega]
  | succ m ih =>
    by_cases e : n = m + 1
    · rw [e]
    · have hw : w < 2 ^ m := Nat.lt_of_lt_of_le h (Nat.pow_le_pow_right (by omega) (by omega))
      show popN m w + (if w.testBit m then 1 else 0) = _
      rw [Nat.testBit_lt_two_pow hw, ih (by omega)]
      simp

theorem popN_congr {a b : Nat} : ∀ m, (∀ i, i < m → a.testBit i = b.testBit i) → popN m a = popN m b
  | 0, _ => rfl
  | m + 1, h => by
    unfold popN
    rw [popN_congr m (fun i hi => h i (by omega)), h m (by omega)]

theorem pop_of_lt {n w : Nat} (h : w < 2 ^ n) (hn : n ≤ 32) : pop w = popN n w := popN_of_lt h 32 hn
theorem pop_le {n w : Nat} (h : w < 2 ^ n) (hn : n ≤ 32) : pop w ≤ n := by
  rw [pop_of_lt h hn]; exact popN_le n w

theorem pop_top {n b : Nat} (hn : n < 32) (hb : b < 2 ^ n) : pop (2 ^ n + b) = pop b + 1 := by
  have hp : (2 : Nat) ^ (n + 1) = 2 ^ n + 2 ^ n := by rw [Nat.pow_succ]; omega
  rw [pop_of_lt (n := n + 1) (w := 2 ^ n + b) (by omega) (by omega), pop_of_lt hb (by omega)]
  show popN n (2 ^ n + b) + (if (2 ^ n + b).testBit n then 1 else 0) = _
  rw [Nat.testBit_two_pow_add_eq, Nat.testBit_lt_two_pow hb]
  rw [popN_congr (a := 2 ^ n + b) (b := b) n (fun i hi => Nat.testBit_two_pow_add_gt hi b)]
  simp

theorem cnt_top {n k : Nat} (hn : n < 32) : ∀ b, b ≤ 2 ^ n → cnt k (2 ^ n + b) = cnt k (2 ^ n) + (if k = 0 then 0 else cnt (k - 1) b)
  | 0, _ => by
    rw [Nat.add_zero]
    split
    · rfl
    · rfl
  | b + 1, h => by
    have e := cnt_top (k := k) hn b (by omega)
    show cnt k (2 ^ n + b) + (if pop (2 ^ n + b) = k then 1 else 0) = _
    rw [e, pop_top hn (by omega)]
    by_cases hk : k = 0
    · rw [if_pos hk, if_pos hk, if_neg (by omega)]
    · rw [if_neg hk, if_neg hk]
      show _ = cnt k (2 ^ n) + (cnt (k - 1) b + (if pop b = k - 1 then 1 else 0))
      by_cases hp : pop b = k - 1
      · rw [if_pos hp, if_pos (by omega)]; omega
      · rw [if_neg hp, if_neg (by omega)]; omega

theorem cnt_all : ∀ n k, n ≤ 32 → cnt k (2 ^ n) = ch n k
  | 0, k, _ => by
    show cnt k 1 = _
    show 0 + (if pop 0 = k then 1 else 0) = _
    rw [show pop 0 = 0 from by decide]
    cases k with
    | zero => rfl
    | succ k => rw [if_neg (by omega)]; rfl
  | n + 1, k, h => by
    rw [show (2 : Nat) ^ (n + 1) = 2 ^ n + 2 ^ n by rw [Nat.pow_succ]; omega, cnt_top (by omega) _ (Nat.le_refl _), cnt_all n k (by omega)]
    cases k with
    | zero => rw [ch_zero, ch_zero]; rfl
    | succ k =>
      rw [if_neg (by omega), show k + 1 - 1 = k by omega, cnt_all n k (by omega)]
      show _ = ch n k + ch n (k + 1)
      omega

theorem cnt_step {n k b : Nat} (hn : n < 32) (hb : b ≤ 2 ^ n) : cnt k (2 ^ n + b) = ch n k + (if k = 0 then 0 else cnt (k - 1) b) := by
  rw [cnt_top hn b hb, cnt_all n k (by omega)]

theorem cnt_mono {k a b : Nat} (h : a ≤ b) : cnt k a ≤ cnt k b := by
  induction b with
  | zero => rw [show a = 0 by omega]; exact Nat.le_refl _
  | succ b ih =>
    by_cases e : a = b + 1
    · rw [e]; exact Nat.le_refl _
    · have := ih (by omega)
      show _ ≤ cnt k b + (if pop b = k then 1 else 0)
      omega

theorem cnt_less {k a b : Nat} (h : a < b) (hp : pop a = k) : cnt k a < cnt k b := by
  have h1 : cnt k (a + 1) = cnt k a + 1 := by
    show cnt k a + (if pop a = k then 1 else 0) = _
    rw [if_pos hp]
  have := cnt_mono (k := k) (a := a + 1) (b := b) (by omega)
  omega

theorem cnt_inj {k a b : Nat} (ha : pop a = k) (hb : pop b = k) (h : cnt k a = cnt k b) : a = b := by
  rcases Nat.lt_trichotomy a b with l | l | l
  · have := cnt_less l ha; omega
  · exact l
  · have := cnt_less l hb; omega

theorem cnt_lt_iff {k a b : Nat} (ha : pop a = k) : cnt k a < cnt k b ↔ a < b := by
  constructor
  · intro h
    rcases Nat.lt_or_ge a b with l | l
    · exact l
    · have := cnt_mono (k := k) l; omega
  · intro h; exact cnt_less h ha

end Go.Proofs.Ytioaohcnlgbnnaa
