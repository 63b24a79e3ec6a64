/-
  The table over all sets of symbols, in plain mathematics: what it says of all symbols is what lengths that cost least cost.
-/
import Derived.Test.YtebghhpjpmekkaaBmp
namespace Go.Proofs.Ytebghhpjpmekkaa

theorem add_or : ∀ a b : Nat, a &&& b = 0 → a + b = a ||| b := by
  intro a
  induction a using Nat.strongRecOn with
  | ind a ih =>
    intro b h
    by_cases ha : a = 0
    · subst ha; simp
    have h2 : a / 2 &&& b / 2 = 0 := by rw [← Nat.and_div_two, h]
    have e := ih (a / 2) (by omega) (b / 2) h2
    have hm : ¬ (a % 2 = 1 ∧ b % 2 = 1) := by
      rw [← Nat.and_mod_two_eq_one, h]
      simp
    have o1 : (a ||| b) / 2 = a / 2 ||| b / 2 := Nat.or_div_two
    have o2 : (a ||| b) % 2 = 1 ↔ a % 2 = 1 ∨ b % 2 = 1 := Nat.or_mod_two_eq_one
    rw [← e] at o1
    omega

/-- The symbols of a set. -/
def bits (n s : Nat) : List Nat := (List.range n).filter fun i => s.testBit i

theorem bits_nodup (n s : Nat) : (bits n s).Nodup := List.nodup_range.filter _
theorem mem_bits {n s i : Nat} : i ∈ bits n s ↔ i < n ∧ s.testBit i = true := by simp [bits]

/-- What a set weighs. -/
def bw (wt : Nat → Nat) (n s : Nat) : Nat := ((bits n s).map wt).sum

theorem bits_succ (k s : Nat) : bits (k + 1) s = bits k s ++ (if s.testBit k then [k] else []) := by
  simp only [bits, List.range_succ, List.filter_append]
  congr 1
  cases h : s.testBit k <;> simp [h]

theorem bw_succ (wt : Nat → Nat) (k s : Nat) : bw wt (k + 1) s = bw wt k s + if s.testBit k then wt k else 0 := by
  unfold bw
  rw [bits_succ]
  cases s.testBit k <;> simp

theorem and_zero {a b : Nat} (h : a &&& b = 0) (i : Nat) (ha : a.testBit i = true) : b.testBit i = false := by
  have := congrArg (fun x => x.testBit i) h
  simp only [Nat.testBit_and, ha, Bool.true_and, Nat.zero_testBit] at this
  exact this

theorem bits_add {a b : Nat} (h : a &&& b = 0) (n : Nat) : (bits n (a + b)).Perm (bits n a ++ bits n b) := by
  refine (List.perm_ext_iff_of_nodup (bits_nodup _ _) ?_).2 ?_
  · rw [List.nodup_append]
    refine ⟨bits_nodup _ _, bits_nodup _ _, ?_⟩
    rintro i hi j hj rfl
    have h1 := (mem_bits.1 hi).2
    have h2 := (mem_bits.1 hj).2
    rw [and_zero h i h1] at h2
    cases h2
  · intro i
    rw [add_or a b h]
    simp only [mem_bits, List.mem_append, Nat.testBit_or, Bool.or_eq_true]
    constructor
    · rintro ⟨h1, h2 | h2⟩
      · exact .inl ⟨h1, h2⟩
      · exact .inr ⟨h1, h2⟩
    · rintro (⟨h1, h2⟩ | ⟨h1, h2⟩)
      · exact ⟨h1, .inl h2⟩
      · exact ⟨h1, .inr h2⟩

theorem bw_add (wt : Nat → Nat) {a b : Nat} (h : a &&& b = 0) (n : Nat) : bw wt n (a + b) = bw wt n a + bw wt n b := by
  unfold bw
  rw [((bits_add h n).map wt).sum_nat]
  simp

theorem ws_bits {wt : Nat → Nat} {n s : Nat} {S : List (Nat × Nat)} (h : (S.map (·.1)).Perm (bits n s)) : ws wt S = bw wt n s := by
  unfold ws bw
  rw [← (h.map wt).sum_nat]
  simp [Function.comp_def]

/-- A part of a set, and the rest. -/
theorem part_rest {a s : Nat} (h : a &&& s = a) : a &&& (s - a) = 0 ∧ a + (s - a) = s := by
  have h1 : a &&& (s ^^^ a) = 0 := by
    apply Nat.eq_of_testBit_eq
    intro i
    have := congrArg (fun x => x.testBit i) h
    simp only [Nat.testBit_and, Nat.testBit_xor, Nat.zero_testBit] at this ⊢
    cases ha : a.testBit i
    · simp
    · rw [ha] at this
      simp at this
      simp [this]
  have h2 : a ||| (s ^^^ a) = s := by
    apply Nat.eq_of_testBit_eq
    intro i
    have := congrArg (fun x => x.testBit i) h
    simp only [Nat.testBit_and, Nat.testBit_or, Nat.testBit_xor] at this ⊢
    cases ha : a.testBit i
    · simp
    · rw [ha] at this
      simp at this
      simp [this]
  have h3 := add_or _ _ h1
  rw [h2] at h3
  have h4 : s - a = s ^^^ a := by omega
  rw [h4]
  exact ⟨h1, h3⟩

/-- What the table says of a set. -/
def TabAt (wt : Nat → Nat) (n : Nat) (T : Nat → Nat) (s : Nat) : Prop :=
  (s &&& (s - 1) = 0 → T s = 0) ∧ (s &&& (s - 1) ≠ 0 → (∀ a, 0 < a → a < s → a &&& s = a → T s ≤ T a + T (s - a) + bw wt n s) ∧ ∃ a, 0 < a ∧ a < s ∧ a &&& s = a ∧ T s = T a + T (s - a) + bw wt n s)

theorem one_bit : ∀ s : Nat, s < 256 → 0 < s → s &&& (s - 1) = 0 → ∃ i, s = 2 ^ i := by
  intro s h0 h1 h2
  have key : ∀ s : Fin 256, 0 < s.val → s.val &&& (s.val - 1) = 0 → (List.range 8).any (fun i => s.val == 2 ^ i) = true := by decide +kernel
  have := key ⟨s, h0⟩ h1 h2
  simp only [List.any_eq_true, beq_iff_eq] at this
  obtain ⟨i, _, hi⟩ := this
  exact ⟨i, hi⟩

theorem bits_pow {n i : Nat} (h : i < n) : (bits n (2 ^ i)).Perm [i] := by
  refine (List.perm_ext_iff_of_nodup (bits_nodup _ _) (by simp)).2 ?_
  intro j
  rw [mem_bits, Nat.testBit_two_pow]
  simp
  omega

/-- There is a tree that costs what the table says. -/
theorem tab_tree {wt : Nat → Nat} {n : Nat} {T : Nat → Nat} (h8 : n ≤ 8) (hT : ∀ s, s < 2 ^ n → TabAt wt n T s) : ∀ s, 0 < s → s < 2 ^ n → ∃ S, Tree S ∧ (S.map (·.1)).Perm (bits n s) ∧ tc wt S = T s := by
  intro s
  induction s using Nat.strongRecOn with
  | ind s ih =>
    intro h0 hs
    have h256 : 2 ^ n ≤ 256 := Nat.pow_le_pow_right (by omega) h8
    obtain ⟨t1, t2⟩ := hT s hs
    by_cases hp : s &&& (s - 1) = 0
    · obtain ⟨i, rfl⟩ := one_bit s (by omega) h0 hp
      have hi : i < n := by
        rcases Nat.lt_or_ge i n with h | h
        · exact h
        · have := Nat.pow_le_pow_right (n := 2) (by omega) h
          omega
      refine ⟨[(i, 0)], .leaf i, by simpa using (bits_pow hi).symm, ?_⟩
      rw [t1 hp]
      simp [tc, wp]
    · obtain ⟨_, a, ha0, has, hpart, he⟩ := t2 hp
      obtain ⟨d1, d2⟩ := part_rest hpart
      obtain ⟨S, hS, pS, cS⟩ := ih a has ha0 (by omega)
      obtain ⟨U, hU, pU, cU⟩ := ih (s - a) (by omega) (by omega) (by omega)
      refine ⟨up (S ++ U), .join hS hU, ?_, ?_⟩
      · rw [up_fst, List.map_append]
        have := bits_add d1 n
        rw [d2] at this
        exact (pS.append pU).trans this.symm
      · rw [tc_join, cS, cU, ws_bits pS, ws_bits pU, he, ← bw_add wt d1, d2]

/-- No tree costs less than the table says. -/
theorem tree_tab {wt : Nat → Nat} {n : Nat} {T : Nat → Nat} (hT : ∀ s, s < 2 ^ n → TabAt wt n T s) {S : List (Nat × Nat)} (h : Tree S) : (S.map (·.1)).Nodup → (∀ p ∈ S, p.1 < n) →
    ∃ s, 0 < s ∧ s < 2 ^ n ∧ (S.map (·.1)).Perm (bits n s) ∧ T s ≤ tc wt S := by
  induction h with
  | leaf i =>
    intro _ hi
    have hi := hi (i, 0) (by simp)
    refine ⟨2 ^ i, Nat.two_pow_pos i, Nat.pow_lt_pow_right (by omega) hi, by simpa using (bits_pow hi).symm, ?_⟩
    have h0 : 2 ^ i &&& (2 ^ i - 1) = 0 := by rw [Nat.and_two_pow_sub_one_eq_mod]; exact Nat.mod_self _
    rw [(hT (2 ^ i) (Nat.pow_lt_pow_right (by omega) hi)).1 h0]
    exact Nat.zero_le _
  | @join S U hS hU ihS ihU =>
    intro hnd hlt
    rw [up_fst, List.map_append, List.nodup_append] at hnd
    obtain ⟨n1, n2, n3⟩ := hnd
    have hl : ∀ p ∈ S ++ U, p.1 < n := fun p hp => hlt (p.1, p.2 + 1) (List.mem_map.2 ⟨p, hp, rfl⟩)
    obtain ⟨a, a0, an, pa, ca⟩ := ihS n1 (fun p hp => hl p (by simp [hp]))
    obtain ⟨b, b0, bn, pb, cb⟩ := ihU n2 (fun p hp => hl p (by simp [hp]))
    have hab : a &&& b = 0 := by
      apply Nat.eq_of_testBit_eq
      intro i
      rw [Nat.testBit_and, Nat.zero_testBit]
      cases hai : a.testBit i
      · simp
      · cases hbi : b.testBit i
        · simp
        · exfalso
          have hin : i < n := by
            rcases Nat.lt_or_ge i n with h | h
            · exact h
            · have : a.testBit i = false := Nat.testBit_lt_two_pow (Nat.lt_of_lt_of_le an (Nat.pow_le_pow_right (by omega) h))
              rw [this] at hai
              cases hai
          exact n3 i (pa.mem_iff.2 (mem_bits.2 ⟨hin, hai⟩)) i (pb.mem_iff.2 (mem_bits.2 ⟨hin, hbi⟩)) rfl
    have hs : a + b < 2 ^ n := by rw [add_or a b hab]; exact Nat.or_lt_two_pow an bn
    have hpart : a &&& (a + b) = a := by
      rw [add_or a b hab]
      apply Nat.eq_of_testBit_eq
      intro i
      rw [Nat.testBit_and, Nat.testBit_or]
      cases a.testBit i <;> simp
    refine ⟨a + b, by omega, hs, ?_, ?_⟩
    · rw [up_fst, List.map_append]
      exact (pa.append pb).trans (bits_add hab n).symm
    · obtain ⟨t1, t2⟩ := hT (a + b) hs
      by_cases hp : (a + b) &&& (a + b - 1) = 0
      · rw [t1 hp]; exact Nat.zero_le _
      · have := (t2 hp).1 a a0 (by omega) hpart
        rw [Nat.add_sub_cancel_left] at this
        rw [tc_join, ws_bits pa, ws_bits pb]
        rw [bw_add wt hab] at this
        omega

theorem bits_all (n : Nat) : bits n (2 ^ n - 1) = List.range n := by
  unfold bits
  rw [List.filter_eq_self]
  intro i hi
  rw [Nat.testBit_two_pow_sub_one]
  simpa using hi

/-- What the table says of all. -/
theorem tab_best {wt : Nat → Nat} {n : Nat} {T : Nat → Nat} {l : List Nat} (h8 : n ≤ 8) (hT : ∀ s, s < 2 ^ n → TabAt wt n T s) (hB : Best wt n l) : T (2 ^ n - 1) = tc wt (pr n l) := by
  have hpos := Nat.two_pow_pos n
  rcases Nat.eq_zero_or_pos n with h0 | h0
  · subst h0
    rw [(hT 0 (by simp)).1 (by simp)]
    simp [tc, wp, pr]
  have h2 : 1 < 2 ^ n := Nat.one_lt_two_pow (by omega)
  apply Nat.le_antisymm
  · have ht : ∃ S, Tree S ∧ S.Perm (pr n l) := by
      rcases hB.tree with h | h | h
      · omega
      · exact ⟨_, h, List.Perm.refl _⟩
      · exact h
    obtain ⟨S, hS, hp⟩ := ht
    have hf : (S.map (·.1)).Perm (List.range n) := by
      have := hp.map (·.1)
      have e : (pr n l).map (·.1) = List.range n := by simp [pr, Function.comp_def]
      rw [e] at this
      exact this
    obtain ⟨s, s0, sn, ps, cs'⟩ := tree_tab hT hS (hf.nodup_iff.2 List.nodup_range) (fun p hp' => by
      have := hf.mem_iff.1 (List.mem_map.2 ⟨p, hp', rfl⟩)
      simpa using this)
    have hs : s = 2 ^ n - 1 := by
      apply Nat.eq_of_testBit_eq
      intro i
      rw [Nat.testBit_two_pow_sub_one]
      rcases Nat.lt_or_ge i n with h | h
      · have : i ∈ bits n s := ps.mem_iff.1 (hf.mem_iff.2 (by simpa using h))
        rw [(mem_bits.1 this).2]
        simp [h]
      · rw [Nat.testBit_lt_two_pow (Nat.lt_of_lt_of_le sn (Nat.pow_le_pow_right (by omega) h))]
        simp
        omega
    rw [← hs, ← tc_perm hp]
    exact cs'
  · obtain ⟨S, hS, pS, cS⟩ := tab_tree h8 hT (2 ^ n - 1) (by omega) (by omega)
    rw [bits_all] at pS
    rw [← cS]
    have hlen : S.length = n := by have := pS.length_eq; simpa using this
    have hd : ∀ p ∈ S, p.2 ≤ 8 := fun p hp => by have := hS.deep p hp; omega
    refine hB.lb (wp wt S) ?_ ⟨?_, ?_⟩
    · rw [wp_fst]; exact pS.map wt
    · intro p hp
      obtain ⟨q, hq, rfl⟩ := List.mem_map.1 hp
      exact hd q hq
    · rw [pk_wp, hS.kraft hd]; exact Nat.le_refl _

end Go.Proofs.Ytebghhpjpmekkaa
