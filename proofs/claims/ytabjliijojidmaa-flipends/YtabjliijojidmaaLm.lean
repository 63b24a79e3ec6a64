/-
  Marks of words and their leaders, plain: the mark of a sum, the word with the fewest bits of all with one mark. Nothing here speaks of the program.
-/
import Derived.Test.YtabjliijojidmaaSm
namespace Go.Proofs.Ytabjliijojidmaa
set_option linter.unusedVariables false

/-- The mark of a word: bit i is set just if it has an odd number of bits in common with the check i. -/
def mk (g : List Nat) (w : Nat) : Nat := setOf (fun i => odd (g.getD i 0) w) g.length

theorem mk_lt (g : List Nat) (w : Nat) : mk g w < 2 ^ g.length := setOf_lt _ _
theorem mk_bit {g : List Nat} {w i : Nat} (h : i < g.length) : (mk g w).testBit i = odd (g.getD i 0) w := setOf_bit _ _ i h
theorem mk_eq {g : List Nat} {m w : Nat} (hm : m < 2 ^ g.length) (h : ∀ i, i < g.length → m.testBit i = odd (g.getD i 0) w) : mk g w = m := by
  apply Nat.eq_of_testBit_eq
  intro i
  rcases Nat.lt_or_ge i g.length with hi | hi
  · rw [mk_bit hi, h i hi]
  · have e := Nat.pow_le_pow_right (n := 2) (by omega) hi
    rw [Nat.testBit_lt_two_pow (Nat.lt_of_lt_of_le (mk_lt g w) e), Nat.testBit_lt_two_pow (Nat.lt_of_lt_of_le hm e)]
theorem mk_xor (g : List Nat) (a b : Nat) : mk g (a ^^^ b) = mk g a ^^^ mk g b := by
  refine mk_eq (Nat.xor_lt_two_pow (mk_lt g a) (mk_lt g b)) (fun i hi => ?_)
  rw [Nat.testBit_xor, mk_bit hi, mk_bit hi, odd_comm (g.getD i 0) (a ^^^ b), odd_xor, odd_comm a, odd_comm b]
theorem mk_zero (g : List Nat) : mk g 0 = 0 := by
  refine mk_eq (Nat.two_pow_pos _) (fun i _ => ?_)
  rw [Nat.zero_testBit, odd_comm, odd_zero]

/-- Of the words below k of which f is m: one with the fewest bits, of several the least. -/
def bst (f : Nat → Nat) (m : Nat) : Nat → Option Nat
  | 0 => none
  | k + 1 => if f k = m then (match bst f m k with
    | none => some k
    | some l => if pop k < pop l then some k else some l) else bst f m k

theorem bst_other {f : Nat → Nat} {m k : Nat} (h : f k ≠ m) : bst f m (k + 1) = bst f m k := if_neg h
theorem bst_new {f : Nat → Nat} {k : Nat} (h : bst f (f k) k = none) : bst f (f k) (k + 1) = some k := by
  show (if f k = f k then _ else _) = _
  rw [if_pos rfl, h]
theorem bst_less {f : Nat → Nat} {k l : Nat} (h : bst f (f k) k = some l) (hl : pop k < pop l) : bst f (f k) (k + 1) = some k := by
  show (if f k = f k then _ else _) = _
  rw [if_pos rfl, h]
  exact if_pos hl
theorem bst_stay {f : Nat → Nat} {k l : Nat} (h : bst f (f k) k = some l) (hl : ¬ pop k < pop l) : bst f (f k) (k + 1) = some l := by
  show (if f k = f k then _ else _) = _
  rw [if_pos rfl, h]
  exact if_neg hl

theorem bst_none {f : Nat → Nat} {m : Nat} : ∀ {k}, bst f m k = none → ∀ w, w < k → f w ≠ m
  | 0, _, w, hw => absurd hw (Nat.not_lt_zero _)
  | k + 1, h, w, hw => by
    by_cases e : f k = m
    · subst e
      exfalso
      cases hb : bst f (f k) k with
      | none => rw [bst_new hb] at h; cases h
      | some l =>
        by_cases hl : pop k < pop l
        · rw [bst_less hb hl] at h; cases h
        · rw [bst_stay hb hl] at h; cases h
    · rw [bst_other e] at h
      rcases Nat.lt_succ_iff_lt_or_eq.1 hw with h' | rfl
      · exact bst_none h w h'
      · exact e

/-- l is the leader of m among the words below k. -/
structure Ldr (f : Nat → Nat) (m k l : Nat) : Prop where
  lt : l < k
  has : f l = m
  few : ∀ w, w < k → f w = m → pop l < pop w ∨ (pop l = pop w ∧ l ≤ w)

theorem Ldr.one {f : Nat → Nat} {m k a b : Nat} (ha : Ldr f m k a) (hb : Ldr f m k b) : a = b := by
  have := ha.few b hb.lt hb.has
  have := hb.few a ha.lt ha.has
  omega

theorem bst_some {f : Nat → Nat} {m : Nat} : ∀ {k l}, bst f m k = some l → Ldr f m k l
  | 0, l, h => by cases h
  | k + 1, l, h => by
    by_cases e : f k = m
    · subst e
      cases hb : bst f (f k) k with
      | none =>
        rw [bst_new hb] at h
        injection h with h
        subst h
        refine ⟨by omega, rfl, fun w hw e => ?_⟩
        rcases Nat.lt_succ_iff_lt_or_eq.1 hw with h' | rfl
        · exact absurd e (bst_none hb w h')
        · omega
      | some x =>
        have ih := bst_some hb
        by_cases hl : pop k < pop x
        · rw [bst_less hb hl] at h
          injection h with h
          subst h
          refine ⟨by omega, rfl, fun w hw e => ?_⟩
          rcases Nat.lt_succ_iff_lt_or_eq.1 hw with h' | rfl
          · have := ih.few w h' e; omega
          · omega
        · rw [bst_stay hb hl] at h
          injection h with h
          subst h
          have := ih.lt
          refine ⟨by omega, ih.has, fun w hw e => ?_⟩
          rcases Nat.lt_succ_iff_lt_or_eq.1 hw with h' | rfl
          · exact ih.few w h' e
          · omega
    · rw [bst_other e] at h
      have ih := bst_some h
      have := ih.lt
      refine ⟨by omega, ih.has, fun w hw e' => ?_⟩
      rcases Nat.lt_succ_iff_lt_or_eq.1 hw with h' | rfl
      · exact ih.few w h' e'
      · exact absurd e' e

theorem bst_of {f : Nat → Nat} {m k l : Nat} (h : Ldr f m k l) : bst f m k = some l := by
  cases hb : bst f m k with
  | none => exact absurd h.has (bst_none hb l h.lt)
  | some x => rw [(bst_some hb).one h]

/-- Some word below k has the mark: so there is a leader. -/
theorem bst_has {f : Nat → Nat} {k w : Nat} (hw : w < k) : ∃ l, bst f (f w) k = some l := by
  cases hb : bst f (f w) k with
  | none => exact absurd rfl (bst_none hb w hw)
  | some x => exact ⟨x, rfl⟩

/-- The leader of a mark, among the words of n bits. -/
def ldr (n : Nat) (g : List Nat) (m : Nat) : Option Nat := bst (mk g) m (2 ^ n)

end Go.Proofs.Ytabjliijojidmaa
