/-
  Plain: how many checks are odd (bd); the first bit by whose turning there are the fewest (pk); a step, and all steps.
-/
import Derived.Test.YtabjliijojidmaaMo
namespace Go.Proofs.Ytabjliijojidmaa
set_option linter.unusedVariables false

/-- How many of the first k checks, and of all, are odd. -/
def bdk (g : List Nat) (q k : Nat) : Nat := pop (mkp g q k)
def bd (g : List Nat) (q : Nat) : Nat := pop (mk g q)
theorem bdk_all (g : List Nat) (q : Nat) : bdk g q g.length = bd g q := rfl
theorem bdk_none (g : List Nat) (q : Nat) : bdk g q 0 = 0 := pop_z
theorem bdk_yes {g : List Nat} {q k : Nat} (hk : k < 32) (h : odd (g.getD k 0) q = true) : bdk g q (k + 1) = bdk g q k + 1 := by
  unfold bdk
  rw [mkp_yes h, Nat.add_comm, pop_top hk (mkp_lt g q k)]
theorem bdk_no {g : List Nat} {q k : Nat} (h : odd (g.getD k 0) q = false) : bdk g q (k + 1) = bdk g q k := by
  unfold bdk
  rw [mkp_no h]
theorem bd_few {g : List Nat} (h : g.length ≤ 8) (q : Nat) : bd g q ≤ 8 := by
  have := pop_le (mk_lt g q) (by omega : g.length ≤ 32)
  unfold bd
  omega

/-- Of the first k tries the first one of the least, if that is less than a, and how many there are then. -/
def pk (f : Nat → Nat) (a : Nat) : Nat → Option Nat × Nat
  | 0 => (none, a)
  | k + 1 => if f k < (pk f a k).2 then (some k, f k) else pk f a k
theorem pk_yes {f : Nat → Nat} {a k : Nat} (h : f k < (pk f a k).2) : pk f a (k + 1) = (some k, f k) := if_pos h
theorem pk_no {f : Nat → Nat} {a k : Nat} (h : ¬ f k < (pk f a k).2) : pk f a (k + 1) = pk f a k := if_neg h
theorem pk_is (f : Nat → Nat) (a : Nat) : ∀ k, ((pk f a k).1 = none ∧ (pk f a k).2 = a ∧ ∀ i, i < k → a ≤ f i) ∨ ∃ i, i < k ∧ (pk f a k).1 = some i ∧ (pk f a k).2 = f i ∧ f i < a
  | 0 => Or.inl ⟨rfl, rfl, fun i hi => absurd hi (Nat.not_lt_zero _)⟩
  | k + 1 => by
    by_cases h : f k < (pk f a k).2
    · rw [pk_yes h]
      refine Or.inr ⟨k, by omega, rfl, rfl, ?_⟩
      rcases pk_is f a k with ⟨_, e, _⟩ | ⟨i, _, _, e, l⟩ <;> omega
    · rw [pk_no h]
      rcases pk_is f a k with ⟨e1, e, l⟩ | ⟨i, hi, e1, e, l⟩
      · refine Or.inl ⟨e1, e, fun j hj => ?_⟩
        rcases Nat.lt_succ_iff_lt_or_eq.1 hj with h' | rfl
        · exact l j h'
        · omega
      · exact Or.inr ⟨i, by omega, e1, e, l⟩
theorem pk_few {f : Nat → Nat} {a m : Nat} (h : a ≤ m) (hf : ∀ i, f i ≤ m) (k : Nat) : (pk f a k).2 ≤ m := by
  rcases pk_is f a k with ⟨_, e, _⟩ | ⟨i, _, _, e, l⟩
  · omega
  · have := hf i; omega

/-- The word with the bit turned that was told; the bit's number, or -1. -/
def wd (q : Nat) : Option Nat → Nat
  | none => q
  | some i => q ^^^ 2 ^ i
def ix : Option Nat → Int
  | none => -1
  | some i => (i : Int)

/-- The tries of a word's bits; the step. -/
def tryb (g : List Nat) (q i : Nat) : Nat := bd g (q ^^^ 2 ^ i)
def tk (g : List Nat) (q k : Nat) : Option Nat × Nat := pk (tryb g q) (bd g q) k
def fo (g : List Nat) (n q : Nat) : Option Nat := (tk g q n).1
def fw (g : List Nat) (n q : Nat) : Nat := wd q (fo g n q)
def fis (g : List Nat) (n q : Nat) : Bool := (fo g n q).isSome

theorem turn_lt {n q i : Nat} (hq : q < 2 ^ n) (hi : i < n) : q ^^^ 2 ^ i < 2 ^ n := Nat.xor_lt_two_pow hq (Nat.pow_lt_pow_right (by omega) hi)
theorem turn_ne (q i : Nat) : q ^^^ 2 ^ i ≠ q := fun h => by
  have h2 : (q ^^^ 2 ^ i).testBit i = q.testBit i := by rw [h]
  rw [Nat.testBit_xor, Nat.testBit_two_pow_self] at h2
  cases hq : q.testBit i <;> rw [hq] at h2 <;> cases h2
theorem turn_far {q i : Nat} (hi : i < 32) : far (q ^^^ 2 ^ i) q = 1 := by
  unfold far
  rw [Nat.xor_comm q, Nat.xor_assoc, Nat.xor_self, Nat.xor_zero]
  have := pop_top hi (Nat.two_pow_pos i)
  rw [Nat.add_zero, pop_z] at this
  exact this

theorem tk_is (g : List Nat) (q k : Nat) : ((tk g q k).1 = none ∧ (tk g q k).2 = bd g q ∧ ∀ i, i < k → bd g q ≤ tryb g q i) ∨ ∃ i, i < k ∧ (tk g q k).1 = some i ∧ (tk g q k).2 = tryb g q i ∧ tryb g q i < bd g q := pk_is _ _ k
theorem tk_few {g : List Nat} (h : g.length ≤ 8) (q k : Nat) : (tk g q k).2 ≤ 8 := pk_few (bd_few h q) (fun i => bd_few h _) k
theorem tk_yes {g : List Nat} {q k : Nat} (h : tryb g q k < (tk g q k).2) : tk g q (k + 1) = (some k, tryb g q k) := pk_yes h
theorem tk_no {g : List Nat} {q k : Nat} (h : ¬ tryb g q k < (tk g q k).2) : tk g q (k + 1) = tk g q k := pk_no h
theorem tk_lt {g : List Nat} {n q k : Nat} (hq : q < 2 ^ n) (hk : k ≤ n) : wd q (tk g q k).1 < 2 ^ n := by
  rcases tk_is g q k with ⟨e, _, _⟩ | ⟨i, hi, e, _⟩
  · rw [e]; exact hq
  · rw [e]; exact turn_lt hq (by omega)

theorem fw_lt {g : List Nat} {n q : Nat} (hq : q < 2 ^ n) : fw g n q < 2 ^ n := tk_lt hq (Nat.le_refl _)
theorem fw_ne (g : List Nat) (n q : Nat) : fis g n q = (fw g n q != q) := by
  unfold fis fw
  cases h : fo g n q with
  | none => show false = (q != q); simp
  | some i =>
    show true = (q ^^^ 2 ^ i != q)
    have := turn_ne q i
    rw [eq_comm, bne_iff_ne]
    exact this
theorem fw_same {g : List Nat} {n q : Nat} (h : fis g n q = false) : fw g n q = q := by
  rw [fw_ne] at h
  simpa using h
theorem fw_less {g : List Nat} {n q : Nat} (hn : n ≤ 12) (h : fis g n q = true) : bd g (fw g n q) < bd g q ∧ far (fw g n q) q = 1 := by
  unfold fis at h
  unfold fw
  rcases tk_is g q n with ⟨e, _, _⟩ | ⟨i, hi, e, _, l⟩
  · unfold fo at h; rw [e] at h; cases h
  · unfold fo; rw [e]
    exact ⟨l, turn_far (by omega)⟩
theorem fw_best {g : List Nat} {n q i : Nat} (h : fis g n q = false) (hi : i < n) : bd g q ≤ bd g (q ^^^ 2 ^ i) := by
  unfold fis at h
  rcases tk_is g q n with ⟨_, _, l⟩ | ⟨j, hj, e, _, l⟩
  · exact l i hi
  · unfold fo at h; rw [e] at h; cases h

/-- The word behind so many steps; the number of all steps. -/
def itr (g : List Nat) (n q : Nat) : Nat → Nat
  | 0 => q
  | k + 1 => fw g n (itr g n q k)
def Ends (g : List Nat) (n q k : Nat) : Prop := (∀ j, j < k → fis g n (itr g n q j) = true) ∧ fis g n (itr g n q k) = false
theorem Ends.one {g : List Nat} {n q k l : Nat} (a : Ends g n q k) (b : Ends g n q l) : k = l := by
  rcases Nat.lt_trichotomy k l with h | h | h
  · have := b.1 k h; rw [a.2] at this; cases this
  · exact h
  · have := a.1 l h; rw [b.2] at this; cases this
theorem itr_lt {g : List Nat} {n q : Nat} (hq : q < 2 ^ n) : ∀ k, itr g n q k < 2 ^ n
  | 0 => hq
  | k + 1 => fw_lt (itr_lt hq k)
theorem itr_less {g : List Nat} {n q : Nat} (hn : n ≤ 12) : ∀ k, (∀ j, j < k → fis g n (itr g n q j) = true) → bd g (itr g n q k) + k ≤ bd g q ∧ far (itr g n q k) q ≤ k
  | 0, _ => ⟨Nat.le_refl _, by show far q q ≤ 0; rw [far_self]; exact Nat.le_refl _⟩
  | k + 1, h => by
    obtain ⟨a, b⟩ := itr_less hn k (fun j hj => h j (by omega))
    obtain ⟨c, d⟩ := fw_less hn (h k (by omega))
    have e := far_tri (itr g n q (k + 1)) (itr g n q k) q
    show bd g (fw g n (itr g n q k)) + (k + 1) ≤ _ ∧ far (fw g n (itr g n q k)) q ≤ k + 1
    change far (fw g n (itr g n q k)) q ≤ far (fw g n (itr g n q k)) (itr g n q k) + _ at e
    omega
theorem itr_few {g : List Nat} {n q k : Nat} (hn : n ≤ 12) (hl : g.length ≤ 8) (h : ∀ j, j < k → fis g n (itr g n q j) = true) : k ≤ 8 := by
  have := (itr_less hn k h).1
  have := bd_few hl q
  omega

end Go.Proofs.Ytabjliijojidmaa
