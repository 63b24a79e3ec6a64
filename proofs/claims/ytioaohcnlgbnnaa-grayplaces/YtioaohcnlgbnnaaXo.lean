/-
  In plain mathematics: how far two words are apart, and how many words are near to one.
-/
import Derived.Test.YtioaohcnlgbnnaaCho
namespace Go.Proofs.Ytioaohcnlgbnnaa

/-- How many bits just one of both words has. -/
def far (a b : Nat) : Nat := pop (a ^^^ b)

theorem popN_or (a b : Nat) : ∀ m, popN m (a ||| b) = popN m (a ^^^ b) + popN m (a &&& b)
  | 0 => rfl
  | m + 1 => by
    have h := popN_or a b m
    unfold popN
    rw [h, Nat.testBit_or, Nat.testBit_xor, Nat.testBit_and]
    cases a.testBit m <;> cases b.testBit m <;> simp <;> omega
theorem far_or (a b : Nat) : pop (a ||| b) = far a b + pop (a &&& b) := popN_or a b 32

theorem far_comm (a b : Nat) : far a b = far b a := by unfold far; rw [Nat.xor_comm]
theorem far_same (a b c : Nat) : far (a ^^^ c) (b ^^^ c) = far a b := by
  unfold far
  congr 1
  apply Nat.eq_of_testBit_eq
  intro i
  simp only [Nat.testBit_xor]
  cases a.testBit i <;> cases b.testBit i <;> cases c.testBit i <;> rfl

theorem popN_tri (a b c : Nat) : ∀ m, popN m (a ^^^ c) ≤ popN m (a ^^^ b) + popN m (b ^^^ c)
  | 0 => Nat.le_refl _
  | m + 1 => by
    have h := popN_tri a b c m
    unfold popN
    rw [Nat.testBit_xor, Nat.testBit_xor, Nat.testBit_xor]
    cases a.testBit m <;> cases b.testBit m <;> cases c.testBit m <;> simp <;> omega
theorem far_tri (a b c : Nat) : far a c ≤ far a b + far b c := popN_tri a b c 32

theorem popN_zero {x : Nat} : ∀ m, popN m x = 0 → ∀ i, i < m → x.testBit i = false
  | 0, _, i, hi => by omega
  | m + 1, h, i, hi => by
    unfold popN at h
    cases hb : x.testBit m
    · rw [hb] at h
      by_cases e : i = m
      · rw [e]; exact hb
      · exact popN_zero m (by simpa using h) i (by omega)
    · rw [hb] at h; simp at h
theorem pop_zero {x : Nat} (hx : x < 4294967296) (h : pop x = 0) : x = 0 := by
  apply Nat.eq_of_testBit_eq
  intro i
  rw [Nat.zero_testBit]
  rcases Nat.lt_or_ge i 32 with l | l
  · exact popN_zero 32 h i l
  · exact Nat.testBit_lt_two_pow (Nat.lt_of_lt_of_le (show x < 2 ^ 32 by omega) (Nat.pow_le_pow_right (by omega) l))
theorem far_self (a : Nat) : far a a = 0 := by
  unfold far
  rw [Nat.xor_self]
  decide
theorem far_zero {a b : Nat} (ha : a < 4294967296) (hb : b < 4294967296) : far a b = 0 ↔ a = b := by
  constructor
  · intro h
    have hl : a ^^^ b < 2 ^ 32 := Nat.xor_lt_two_pow (by omega) (by omega)
    have e := pop_zero (by omega) h
    have e2 : a ^^^ (a ^^^ b) = a ^^^ 0 := by rw [e]
    rw [← Nat.xor_assoc, Nat.xor_self, Nat.zero_xor, Nat.xor_zero] at e2
    exact e2.symm
  · rintro rfl; exact far_self a
theorem far_le {a b n : Nat} (hn : n ≤ 32) (ha : a < 2 ^ n) (hb : b < 2 ^ n) : far a b ≤ n := pop_le (Nat.xor_lt_two_pow ha hb) hn
theorem far_le32 (a b : Nat) : far a b ≤ 32 := popN_le 32 _

/-- The words below m that are no farther from a than r. -/
def near (a r m : Nat) : List Nat := (List.range m).filter (fun x => decide (far a x ≤ r))
theorem near_zero (a r : Nat) : near a r 0 = [] := rfl
theorem near_yes {a r m : Nat} (h : far a m ≤ r) : near a r (m + 1) = near a r m ++ [m] := by
  unfold near
  rw [List.range_succ, List.filter_append]
  simp [h]
theorem near_no {a r m : Nat} (h : ¬ far a m ≤ r) : near a r (m + 1) = near a r m := by
  unfold near
  rw [List.range_succ, List.filter_append]
  simp [h]
theorem near_few (a r m : Nat) : (near a r m).length ≤ m := by
  have := List.length_filter_le (fun x => decide (far a x ≤ r)) (List.range m)
  rw [List.length_range] at this
  exact this

/-- How many words of n bits have fewer than r ones. -/
def sz (n : Nat) : Nat → Nat
  | 0 => 0
  | r + 1 => sz n r + ch n r

/-- How many words below m have fewer than r ones. -/
def less (m : Nat) : Nat → Nat
  | 0 => 0
  | r + 1 => less m r + cnt r m

theorem less_all {n : Nat} (hn : n ≤ 32) : ∀ r, less (2 ^ n) r = sz n r
  | 0 => rfl
  | r + 1 => by
    show less (2 ^ n) r + cnt r (2 ^ n) = sz n r + ch n r
    rw [less_all hn r, cnt_all n r hn]

theorem less_next (m : Nat) : ∀ r, less (m + 1) r = less m r + (if pop m < r then 1 else 0)
  | 0 => by simp [less]
  | r + 1 => by
    show less (m + 1) r + (cnt r m + (if pop m = r then 1 else 0)) = less m r + cnt r m + _
    rw [less_next m r]
    by_cases h : pop m < r
    · rw [if_pos h, if_neg (by omega), if_pos (by omega)]; omega
    · by_cases e : pop m = r
      · rw [if_neg h, if_pos e, if_pos (by omega)]; omega
      · rw [if_neg h, if_neg e, if_neg (by omega)]; omega
theorem less_zero : ∀ r, less 0 r = 0
  | 0 => rfl
  | r + 1 => by show less 0 r + 0 = 0; rw [less_zero r]

theorem near_zero_word (r : Nat) : ∀ m, (near 0 r m).length = less m (r + 1)
  | 0 => by rw [less_zero]; rfl
  | m + 1 => by
    have e : far 0 m = pop m := by unfold far; rw [Nat.zero_xor]
    rw [less_next, ← near_zero_word r m]
    by_cases h : pop m ≤ r
    · rw [near_yes (by rw [e]; exact h), if_pos (by omega)]; simp
    · rw [near_no (by rw [e]; exact h), if_neg (by omega)]; rfl

/-- All words of n bits, each with a's bits turned, are all words of n bits. -/
theorem turn_all {a n : Nat} (ha : a < 2 ^ n) : ((List.range (2 ^ n)).map (fun x => a ^^^ x)).Perm (List.range (2 ^ n)) := by
  have inj : ∀ x y, a ^^^ x = a ^^^ y → x = y := fun x y h => by
    have := congrArg (fun z => a ^^^ z) h
    simpa [← Nat.xor_assoc] using this
  have nd : ((List.range (2 ^ n)).map (fun x => a ^^^ x)).Nodup := by
    rw [List.Nodup, List.pairwise_map]
    exact List.Pairwise.imp (fun h e => h (inj _ _ e)) List.nodup_range
  refine (List.perm_ext_iff_of_nodup nd List.nodup_range).2 fun x => ?_
  rw [List.mem_map, List.mem_range]
  constructor
  · rintro ⟨y, hy, rfl⟩
    exact Nat.xor_lt_two_pow ha (List.mem_range.1 hy)
  · intro hx
    refine ⟨a ^^^ x, List.mem_range.2 (Nat.xor_lt_two_pow ha hx), ?_⟩
    rw [← Nat.xor_assoc, Nat.xor_self, Nat.zero_xor]

/-- Each ball of one size has as many words. -/
theorem near_many {a n r : Nat} (hn : n ≤ 32) (ha : a < 2 ^ n) : (near a r (2 ^ n)).length = sz n (r + 1) := by
  rw [← less_all hn, ← near_zero_word]
  have p := ((turn_all ha).filter (fun y => decide (far 0 y ≤ r))).length_eq
  rw [List.filter_map, List.length_map] at p
  unfold near
  rw [← p]
  congr 2
  funext x
  have e : far 0 (a ^^^ x) = far a x := by unfold far; rw [Nat.zero_xor]
  show decide (far a x ≤ r) = decide (far 0 (a ^^^ x) ≤ r)
  rw [e]

theorem sz_one (n : Nat) : sz n 1 = 1 := by show 0 + ch n 0 = 1; rw [ch_zero]
theorem sz_mono (n : Nat) : ∀ r, sz n r ≤ sz n (r + 1) := fun r => by show _ ≤ sz n r + ch n r; omega
theorem sz_pos (n : Nat) : ∀ r, 1 ≤ sz n (r + 1)
  | 0 => by rw [sz_one]; omega
  | r + 1 => Nat.le_trans (sz_pos n r) (sz_mono n (r + 1))
theorem sz_all {n : Nat} (hn : n ≤ 32) : sz n (n + 1) = 2 ^ n := by
  rw [← near_many (a := 0) hn (Nat.pow_pos (by omega))]
  unfold near
  rw [List.filter_eq_self.2, List.length_range]
  intro x hx
  exact decide_eq_true (far_le hn (Nat.pow_pos (by omega)) (List.mem_range.1 hx))
theorem sz_few {n r : Nat} (hn : n ≤ 32) : sz n r ≤ 2 ^ n := by
  rw [← less_all hn]
  cases r with
  | zero => exact Nat.zero_le _
  | succ r => rw [← near_zero_word]; exact near_few _ _ _

end Go.Proofs.Ytioaohcnlgbnnaa
