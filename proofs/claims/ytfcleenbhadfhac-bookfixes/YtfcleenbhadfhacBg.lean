/-
  The book that grows, plain: its words are far apart and nothing can be put to it (Gilbert, Varshamov); the sum of two of them is one (Conway, Sloane). Nothing here speaks of the program.
-/
import Derived.Test.YtfcleenbhadfhacBm
namespace Go.Proofs.Ytfcleenbhadfhac

/-- x is taken. -/
def tk (d x : Nat) : Prop := ∀ v ∈ gw d x, d ≤ far v x

theorem tk_any {d x : Nat} : (gw d x).any (fun v => decide (far v x < d)) = false ↔ tk d x := by
  rw [List.any_eq_false]
  constructor
  · intro h v hv
    have := h v hv
    simp at this
    omega
  · intro h v hv
    have := h v hv
    simp; omega

theorem gw_mem {d x : Nat} : ∀ M, x ∈ gw d M ↔ x < M ∧ tk d x
  | 0 => by simp [gw]
  | M + 1 => by
    have ih := gw_mem (d := d) (x := x) M
    have e : gw d (M + 1) = if (gw d M).any (fun v => decide (far v M < d)) then gw d M else gw d M ++ [M] := rfl
    rw [e]
    cases h : (gw d M).any (fun v => decide (far v M < d)) with
    | true =>
      rw [if_pos rfl, ih]
      constructor
      · intro ⟨h1, h2⟩; exact ⟨by omega, h2⟩
      · intro ⟨h1, h2⟩
        refine ⟨?_, h2⟩
        rcases Nat.lt_succ_iff_lt_or_eq.1 h1 with h' | rfl
        · exact h'
        · rw [tk_any.2 h2] at h; cases h
    | false =>
      rw [if_neg (by decide), List.mem_append, ih]
      constructor
      · rintro (⟨h1, h2⟩ | h1)
        · exact ⟨by omega, h2⟩
        · simp at h1; subst h1; exact ⟨by omega, tk_any.1 h⟩
      · intro ⟨h1, h2⟩
        rcases Nat.lt_succ_iff_lt_or_eq.1 h1 with h' | rfl
        · exact Or.inl ⟨h', h2⟩
        · right; simp

theorem gw_pair (d : Nat) : ∀ M, (gw d M).Pairwise (fun a b => a < b ∧ d ≤ far a b)
  | 0 => List.Pairwise.nil
  | M + 1 => by
    have ih := gw_pair d M
    have e : gw d (M + 1) = if (gw d M).any (fun v => decide (far v M < d)) then gw d M else gw d M ++ [M] := rfl
    rw [e]
    cases h : (gw d M).any (fun v => decide (far v M < d)) with
    | true => rw [if_pos rfl]; exact ih
    | false =>
      rw [if_neg (by decide), List.pairwise_append]
      refine ⟨ih, List.pairwise_singleton _ _, fun a ha b hb => ?_⟩
      simp at hb; subst hb
      exact ⟨gw_lt d b a ha, tk_any.1 h a ha⟩

theorem gw_far (d M : Nat) : Far d (gw d M) := by
  intro i j hij hj
  have := (List.pairwise_iff_getElem.1 (gw_pair d M) i j (by omega) hj hij).2
  rw [getD_get hj, getD_get (by omega), far_comm]
  exact this

theorem gw_nodup (d M : Nat) : (gw d M).Nodup := by
  rw [List.nodup_iff_pairwise_ne]
  exact (gw_pair d M).imp (fun h => by omega)

theorem gw_book {d n : Nat} (hn : n ≤ 12) (h : (gw d (2 ^ n)).length ≤ 64) : Book n (gw d (2 ^ n)) := ⟨hn, h, gw_lt d _, gw_nodup d _⟩

/-- Nothing can be put to it. -/
theorem gw_cover {d M q : Nat} (hd : 1 ≤ d) (hq : q < M) : ∃ v ∈ gw d M, far v q < d := by
  cases h : (gw d q).any (fun v => decide (far v q < d)) with
  | true =>
    rw [List.any_eq_true] at h
    obtain ⟨v, hv, hf⟩ := h
    exact ⟨v, (gw_mem M).2 ⟨by have := gw_lt d q v hv; omega, ((gw_mem q).1 hv).2⟩, by simpa using hf⟩
  | false => exact ⟨q, (gw_mem M).2 ⟨hq, tk_any.1 h⟩, by rw [far_self]; omega⟩

/-- Gilbert, Varshamov. -/
theorem gilbert_bound {n d : Nat} (hn : n ≤ 32) (hd : 1 ≤ d) : 2 ^ n ≤ (gw d (2 ^ n)).length * sz n d := by
  obtain ⟨r, rfl⟩ : ∃ r, d = r + 1 := ⟨d - 1, by omega⟩
  rw [← balls_length (r := r) hn (gw_lt (r + 1) (2 ^ n))]
  have := (List.nodup_range (n := 2 ^ n)).length_le_of_subset (l₂ := (gw (r + 1) (2 ^ n)).flatMap (fun x => near x r (2 ^ n))) (fun q hq => by
    obtain ⟨v, hv, hf⟩ := gw_cover hd (List.mem_range.1 hq)
    rw [List.mem_flatMap]
    exact ⟨v, hv, near_mem.2 ⟨List.mem_range.1 hq, by omega⟩⟩)
  simpa using this

/-- What the first n bits make together. -/
def gx (c : Nat → Nat) : Nat → Nat → Nat
  | 0, _ => 0
  | n + 1, w => gx c n w ^^^ (if w.testBit n then c n else 0)

theorem gx_xor (c : Nat → Nat) (a b : Nat) : ∀ n, gx c n (a ^^^ b) = gx c n a ^^^ gx c n b
  | 0 => by simp [gx]
  | n + 1 => by
    have ih := gx_xor c a b n
    show gx c n (a ^^^ b) ^^^ (if (a ^^^ b).testBit n then c n else 0) = (gx c n a ^^^ (if a.testBit n then c n else 0)) ^^^ (gx c n b ^^^ (if b.testBit n then c n else 0))
    rw [ih, Nat.testBit_xor]
    apply Nat.eq_of_testBit_eq
    intro i
    cases a.testBit n <;> cases b.testBit n <;> simp <;> cases (gx c n a).testBit i <;> cases (gx c n b).testBit i <;> cases (c n).testBit i <;> rfl

theorem gx_bits (c : Nat → Nat) {a b : Nat} : ∀ n, (∀ i, i < n → a.testBit i = b.testBit i) → gx c n a = gx c n b
  | 0, _ => rfl
  | n + 1, h => by
    show gx c n a ^^^ _ = gx c n b ^^^ _
    rw [gx_bits c n (fun i hi => h i (by omega)), h n (by omega)]

theorem gx_congr {c c' : Nat → Nat} (w : Nat) : ∀ n, (∀ i, i < n → c i = c' i) → gx c n w = gx c' n w
  | 0, _ => rfl
  | n + 1, h => by
    show gx c n w ^^^ _ = gx c' n w ^^^ _
    rw [gx_congr w n (fun i hi => h i (by omega)), h n (by omega)]

theorem gx_low (c : Nat → Nat) {w i : Nat} (hw : w < 2 ^ i) : ∀ n, i ≤ n → gx c n w = gx c i w := by
  intro n hn
  induction n with
  | zero => rw [show i = 0 by omega]
  | succ n ih =>
    by_cases e : i = n + 1
    · rw [e]
    · have hw' : w < 2 ^ n := Nat.lt_of_lt_of_le hw (Nat.pow_le_pow_right (by omega) (by omega))
      show gx c n w ^^^ (if w.testBit n then c n else 0) = _
      rw [Nat.testBit_lt_two_pow hw', ih (by omega)]
      simp

theorem top_bits {i S : Nat} (hS : S < 2 ^ i) : (∀ j, j < i → (2 ^ i + S).testBit j = S.testBit j) ∧ (2 ^ i + S).testBit i = true ∧ ∀ j, i < j → (2 ^ i + S).testBit j = false := by
  refine ⟨fun j hj => Nat.testBit_two_pow_add_gt hj S, ?_, fun j hj => ?_⟩
  · rw [Nat.testBit_two_pow_add_eq, Nat.testBit_lt_two_pow hS]; rfl
  · refine Nat.testBit_lt_two_pow ?_
    have : 2 ^ (i + 1) ≤ 2 ^ j := Nat.pow_le_pow_right (by omega) (by omega)
    have e : 2 ^ (i + 1) = 2 * 2 ^ i := by rw [Nat.pow_succ]; omega
    omega

theorem gx_top (c : Nat → Nat) {n i S : Nat} (hi : i < n) (hS : S < 2 ^ i) : gx c n (2 ^ i + S) = gx c i S ^^^ c i := by
  have hlt : 2 ^ i + S < 2 ^ (i + 1) := by rw [Nat.pow_succ]; omega
  obtain ⟨h1, h2, _⟩ := top_bits hS
  rw [gx_low c hlt n (by omega)]
  show gx c i (2 ^ i + S) ^^^ (if (2 ^ i + S).testBit i then c i else 0) = _
  rw [h2, gx_bits c i h1]
  simp

/-- The first number that is not in a list. -/
theorem mex (L : List Nat) : ∃ m, m ∉ L ∧ ∀ v, v < m → v ∈ L := by
  have step : ∀ k, (∀ v, v < k → v ∈ L) ∨ ∃ m, m ∉ L ∧ ∀ v, v < m → v ∈ L := by
    intro k
    induction k with
    | zero => exact Or.inl (fun v hv => absurd hv (Nat.not_lt_zero _))
    | succ k ih =>
      rcases ih with h | h
      · by_cases hk : k ∈ L
        · left
          intro v hv
          rcases Nat.lt_succ_iff_lt_or_eq.1 hv with h' | rfl
          · exact h v h'
          · exact hk
        · exact Or.inr ⟨k, hk, h⟩
      · exact Or.inr h
  rcases step (L.length + 1) with h | h
  · have := (List.nodup_range (n := L.length + 1)).length_le_of_subset (l₂ := L) (fun v hv => h v (List.mem_range.1 hv))
    simp at this
    omega
  · exact h

/-- What a bit makes is the first that fewer than d - 1 bits below it don't make. -/
def Mex (d : Nat) (c : Nat → Nat) (i : Nat) : Prop := (∀ S, S < 2 ^ i → pop S + 1 < d → gx c i S ≠ c i) ∧ ∀ v, v < c i → ∃ S, S < 2 ^ i ∧ pop S + 1 < d ∧ gx c i S = v

theorem mex_all (d : Nat) : ∀ n, ∃ c : Nat → Nat, ∀ i, i < n → Mex d c i
  | 0 => ⟨fun _ => 0, fun i hi => absurd hi (Nat.not_lt_zero _)⟩
  | n + 1 => by
    obtain ⟨c, hc⟩ := mex_all d n
    obtain ⟨m, hm, hv⟩ := mex (((List.range (2 ^ n)).filter (fun S => decide (pop S + 1 < d))).map (gx c n))
    have mem : ∀ v, v ∈ ((List.range (2 ^ n)).filter (fun S => decide (pop S + 1 < d))).map (gx c n) ↔ ∃ S, S < 2 ^ n ∧ pop S + 1 < d ∧ gx c n S = v := fun v => by
      simp only [List.mem_map, List.mem_filter, List.mem_range, decide_eq_true_eq]
      constructor
      · rintro ⟨S, ⟨h1, h2⟩, h3⟩; exact ⟨S, h1, h2, h3⟩
      · rintro ⟨S, h1, h2, h3⟩; exact ⟨S, ⟨h1, h2⟩, h3⟩
    refine ⟨fun j => if j = n then m else c j, fun i hi => ?_⟩
    have cg : ∀ w k, k ≤ n → gx (fun j => if j = n then m else c j) k w = gx c k w := fun w k hk => gx_congr w k (fun j hj => if_neg (by omega))
    rcases Nat.lt_succ_iff_lt_or_eq.1 hi with h' | rfl
    · have := hc i h'
      unfold Mex at *
      simp only [cg _ _ (Nat.le_of_lt h'), if_neg (show i ≠ n by omega)]
      exact this
    · unfold Mex
      simp only [cg _ _ (Nat.le_refl _), if_true]
      refine ⟨fun S h1 h2 e => hm ((mem m).2 ⟨S, h1, h2, e⟩), fun v h => (mem v).1 (hv v h)⟩

theorem gx_bit (c : Nat → Nat) {w t : Nat} : ∀ n, (gx c n w).testBit t = true → ∃ i, i < n ∧ w.testBit i = true ∧ (c i).testBit t = true
  | 0, h => by simp [gx] at h
  | n + 1, h => by
    have h' : (gx c n w ^^^ (if w.testBit n then c n else 0)).testBit t = true := h
    rw [Nat.testBit_xor] at h'
    cases e : (gx c n w).testBit t with
    | true =>
      obtain ⟨i, h1, h2, h3⟩ := gx_bit c n e
      exact ⟨i, by omega, h2, h3⟩
    | false =>
      rw [e] at h'
      cases e2 : w.testBit n with
      | true => rw [e2] at h'; exact ⟨n, by omega, e2, by simpa using h'⟩
      | false => rw [e2] at h'; simp at h'

theorem top_of {a : Nat} (h : a ≠ 0) : ∃ t S, a = 2 ^ t + S ∧ S < 2 ^ t := by
  refine ⟨a.log2, a - 2 ^ a.log2, ?_, ?_⟩
  · have := Nat.log2_self_le h; omega
  · have h1 := Nat.log2_self_le h
    have h2 : a < 2 ^ (a.log2 + 1) := Nat.lt_log2_self
    rw [Nat.pow_succ] at h2
    omega

theorem lt_of_bit : ∀ (i x y : Nat), x.testBit i = false → y.testBit i = true → (∀ j, i < j → x.testBit j = y.testBit j) → x < y
  | 0, x, y, hx, hy, h => by
    have e : x / 2 = y / 2 := Nat.eq_of_testBit_eq (fun j => by
      have := h (j + 1) (by omega)
      rwa [Nat.testBit_add_one, Nat.testBit_add_one] at this)
    rw [Nat.testBit_zero] at hx hy
    simp at hx hy
    omega
  | i + 1, x, y, hx, hy, h => by
    rw [Nat.testBit_add_one] at hx hy
    have := lt_of_bit i (x / 2) (y / 2) hx hy (fun j hj => by
      have := h (j + 1) (by omega)
      rwa [Nat.testBit_add_one, Nat.testBit_add_one] at this)
    omega

/-- Conway, Sloane: a word is taken just if its bits make 0 together. -/
theorem tk_iff {d n : Nat} {c : Nat → Nat} (hn : n ≤ 32) (hc : ∀ i, i < n → Mex d c i) : ∀ x, x < 2 ^ n → (tk d x ↔ gx c n x = 0) := by
  intro x
  induction x using Nat.strongRecOn with
  | _ x ih =>
  intro hx
  constructor
  · intro ht
    apply Classical.byContradiction
    intro ha
    obtain ⟨t, A, hA, hAl⟩ := top_of ha
    obtain ⟨a1, a2, a3⟩ := top_bits hAl
    rw [← hA] at a1 a2 a3
    obtain ⟨i, hi, hb, hci⟩ := gx_bit c n a2
    have less : c i ^^^ gx c n x < c i := by
      refine lt_of_bit t _ _ ?_ hci (fun j hj => ?_)
      · rw [Nat.testBit_xor, hci, a2]; rfl
      · rw [Nat.testBit_xor, a3 j hj]; simp
    obtain ⟨S, hS, hp, hg⟩ := (hc i hi).2 _ less
    obtain ⟨s1, s2, s3⟩ := top_bits hS
    have vlt : x ^^^ (2 ^ i + S) < x := by
      refine lt_of_bit i _ _ ?_ hb (fun j hj => ?_)
      · rw [Nat.testBit_xor, hb, s2]; rfl
      · rw [Nat.testBit_xor, s3 j hj]; simp
    have gv : gx c n (x ^^^ (2 ^ i + S)) = 0 := by
      rw [gx_xor, gx_top c hi hS, hg, Nat.xor_comm (c i), Nat.xor_assoc, Nat.xor_self, Nat.xor_zero, Nat.xor_self]
    have tv := (ih _ vlt (Nat.lt_trans vlt hx)).2 gv
    have := ht _ ((gw_mem x).2 ⟨vlt, tv⟩)
    unfold far at this
    rw [Nat.xor_comm (x ^^^ (2 ^ i + S)) x, ← Nat.xor_assoc, Nat.xor_self, Nat.zero_xor, pop_top (by omega) hS] at this
    omega
  · intro hg v hv
    obtain ⟨vlt, tv⟩ := (gw_mem x).1 hv
    have gv := (ih v vlt (Nat.lt_trans vlt hx)).1 tv
    apply Classical.byContradiction
    intro hf
    have hs : v ^^^ x ≠ 0 := fun h => by
      have : v = x := by
        apply Nat.eq_of_testBit_eq
        intro j
        have := congrArg (fun z => z.testBit j) h
        simp only [Nat.testBit_xor, Nat.zero_testBit] at this
        cases e1 : v.testBit j <;> cases e2 : x.testBit j <;> simp_all
      omega
    obtain ⟨i, S, e, hS⟩ := top_of hs
    have hlt : v ^^^ x < 2 ^ n := Nat.xor_lt_two_pow (Nat.lt_trans vlt hx) hx
    have hi : i < n := by
      rcases Nat.lt_or_ge i n with h | h
      · exact h
      · have : 2 ^ n ≤ 2 ^ i := Nat.pow_le_pow_right (by omega) h
        omega
    have g0 : gx c n (v ^^^ x) = 0 := by rw [gx_xor, gv, hg]; rfl
    rw [e, gx_top c hi hS] at g0
    have ec : gx c i S = c i := by
      apply Nat.eq_of_testBit_eq
      intro j
      have := congrArg (fun z => z.testBit j) g0
      simp only [Nat.testBit_xor, Nat.zero_testBit] at this
      cases e1 : (gx c i S).testBit j <;> cases e2 : (c i).testBit j <;> simp_all
    refine (hc i hi).1 S hS ?_ ec
    unfold far at hf
    rw [e, pop_top (by omega) hS] at hf
    omega

/-- The sum of two words that were taken is one. -/
theorem gw_sums {d n x y : Nat} (hn : n ≤ 32) (hx : x ∈ gw d (2 ^ n)) (hy : y ∈ gw d (2 ^ n)) : x ^^^ y ∈ gw d (2 ^ n) := by
  obtain ⟨c, hc⟩ := mex_all d n
  obtain ⟨x1, x2⟩ := (gw_mem _).1 hx
  obtain ⟨y1, y2⟩ := (gw_mem _).1 hy
  have hl : x ^^^ y < 2 ^ n := Nat.xor_lt_two_pow x1 y1
  refine (gw_mem _).2 ⟨hl, (tk_iff hn hc _ hl).2 ?_⟩
  rw [gx_xor, (tk_iff hn hc _ x1).1 x2, (tk_iff hn hc _ y1).1 y2]
  rfl

end Go.Proofs.Ytfcleenbhadfhac
