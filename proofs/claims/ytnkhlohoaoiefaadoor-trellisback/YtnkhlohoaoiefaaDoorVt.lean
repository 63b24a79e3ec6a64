/-
  In plain mathematics: Viterbi's search; data that are not the same give bits that are not the same at five places at least.
-/
import Derived.Test.YtnkhlohoaoiefaaDoorTr
import Derived.Test.YtnkhlohoaoiefaaDoorCt
namespace Go.Proofs.YtnkhlohoaoiefaaDoor

/-- At how many of the two places what is written behind a state is not what came. -/
def ac (s0 s1 q a b : Bool) : Nat := (if (((q != s1) != s0) != a) = true then 1 else 0) + (if ((q != s1) != b) = true then 1 else 0)
/-- At how many places what is written for the first k bits, as a number, is not what came. -/
def co (l : List Bool) : Nat → Nat → Nat
  | 0, _ => 0
  | k + 1, x => co l k (x / 2) + ac (x.testBit 1) (x.testBit 2) (x.testBit 0) (l.getD (2 * k) false) (l.getD (2 * k + 1) false)
theorem ac_le (s0 s1 q a b : Bool) : ac s0 s1 q a b ≤ 2 := by
  unfold ac
  split <;> split <;> omega
theorem co_le (l : List Bool) : ∀ k x, co l k x ≤ 2 * k
  | 0, _ => Nat.le_refl _
  | k + 1, x => by
    have h1 := co_le l k (x / 2)
    have h2 := ac_le (x.testBit 1) (x.testBit 2) (x.testBit 0) (l.getD (2 * k) false) (l.getD (2 * k + 1) false)
    show co l k (x / 2) + _ ≤ _
    omega

/-- What is kept of each state: bits as a number, and at how many places they are not what came. -/
abbrev Mp := Bool → Bool → Option (Nat × Nat)
def bt (p o : Nat × Nat) : Bool := if p.2 = o.2 then decide (p.1 < o.1) else decide (p.2 < o.2)
def wi (p : Nat × Nat) (q : Bool) (c : Nat) : Nat × Nat := (2 * p.1 + q.toNat, p.2 + c)
/-- The better one is kept. -/
def kp (o : Option (Nat × Nat)) (q : Nat × Nat) : Nat × Nat := match o with
  | none => q
  | some p => if bt q p then q else p
def pt1 (m : Mp) (t0 t1 : Bool) (q : Nat × Nat) : Mp := fun s0 s1 => if s0 = t0 ∧ s1 = t1 then some (kp (m t0 t1) q) else m s0 s1
/-- What comes of one state. -/
def ex2 (a b : Bool) (m0 : Mp) (f0 f1 : Bool) (m : Mp) : Mp := match m0 f0 f1 with
  | none => m
  | some p => pt1 (pt1 m false f0 (wi p false (ac f0 f1 false a b))) true f0 (wi p true (ac f0 f1 true a b))
def sf (k : Nat) : Bool := decide (2 ≤ k)
def ss (k : Nat) : Bool := decide (k % 2 = 1)
def lgk (a b : Bool) (m0 : Mp) : Nat → Mp
  | 0 => fun _ _ => none
  | k + 1 => ex2 a b m0 (sf k) (ss k) (lgk a b m0 k)
/-- What comes of all. -/
def lg (a b : Bool) (m0 : Mp) : Mp := lgk a b m0 4

def sc (a b : Bool) (m0 : Mp) (f0 f1 t0 : Bool) : Option (Nat × Nat) := (m0 f0 f1).map fun p => wi p t0 (ac f0 f1 t0 a b)
def cm : Option (Nat × Nat) → Option (Nat × Nat) → Option (Nat × Nat)
  | o, none => o
  | o, some q => some (kp o q)
theorem lg_at (a b : Bool) (m0 : Mp) (t0 t1 : Bool) : lg a b m0 t0 t1 = cm (sc a b m0 t1 false t0) (sc a b m0 t1 true t0) := by
  show ex2 a b m0 true true (ex2 a b m0 true false (ex2 a b m0 false true (ex2 a b m0 false false (fun _ _ => none)))) t0 t1 = _
  unfold ex2 sc
  generalize h0 : m0 false false = A
  generalize h1 : m0 false true = B
  generalize h2 : m0 true false = C
  generalize h3 : m0 true true = D
  cases t0 <;> cases t1 <;> simp only [h0, h1, h2, h3] <;> cases A <;> cases B <;> cases C <;> cases D <;> simp [pt1, cm, kp]

/-- These bits, as a number, end so. -/
def Is (k : Nat) (s0 s1 : Bool) (x : Nat) : Prop := x < 2 ^ k ∧ x.testBit 0 = s0 ∧ x.testBit 1 = s1
def Lx (d x e y : Nat) : Prop := d < e ∨ d = e ∧ x ≤ y
/-- The nearest of all that end so, the first of several. -/
def Best (l : List Bool) (k : Nat) (s0 s1 : Bool) : Option (Nat × Nat) → Prop
  | none => ∀ x, ¬ Is k s0 s1 x
  | some p => Is k s0 s1 p.1 ∧ p.2 = co l k p.1 ∧ ∀ x, Is k s0 s1 x → Lx p.2 p.1 (co l k x) x

theorem bit_half (x i : Nat) : x.testBit (i + 1) = (x / 2).testBit i := Nat.testBit_succ x i
theorem bit_wi0 (x : Nat) (q : Bool) : (2 * x + q.toNat).testBit 0 = q := by
  rw [Nat.testBit_zero]
  cases q
  · rw [decide_eq_false (by simp)]
  · rw [decide_eq_true (by simp)]
theorem half_wi (x : Nat) (q : Bool) : (2 * x + q.toNat) / 2 = x := by
  cases q
  · simp
  · simp; omega
theorem is_up {k : Nat} {t0 t1 : Bool} {x : Nat} (h : Is (k + 1) t0 t1 x) : Is k t1 (x.testBit 2) (x / 2) ∧ x = 2 * (x / 2) + t0.toNat := by
  obtain ⟨h1, h2, h3⟩ := h
  refine ⟨⟨by rw [Nat.pow_succ] at h1; omega, by rw [← bit_half, h3], by rw [← bit_half]⟩, ?_⟩
  rw [Nat.testBit_zero] at h2
  cases t0
  · simp at h2 ⊢; omega
  · simp at h2 ⊢; omega
theorem is_of {k : Nat} {t0 t1 f1 : Bool} {x : Nat} (h : Is k t1 f1 x) : Is (k + 1) t0 t1 (2 * x + t0.toNat) ∧ (2 * x + t0.toNat).testBit 2 = f1 := by
  obtain ⟨h1, h2, h3⟩ := h
  refine ⟨⟨?_, bit_wi0 x t0, by rw [bit_half, half_wi, h2]⟩, by rw [bit_half, half_wi, h3]⟩
  rw [Nat.pow_succ]
  have : t0.toNat ≤ 1 := by cases t0 <;> decide
  omega
theorem co_up (l : List Bool) {k : Nat} {t0 t1 : Bool} {x : Nat} (h : Is (k + 1) t0 t1 x) : co l (k + 1) x = co l k (x / 2) + ac t1 (x.testBit 2) t0 (l.getD (2 * k) false) (l.getD (2 * k + 1) false) := by
  show co l k (x / 2) + _ = _
  rw [h.2.1, h.2.2]

/-- The nearest of all that end so and have this bit ahead. -/
def Sb (l : List Bool) (k : Nat) (t0 t1 f1 : Bool) : Option (Nat × Nat) → Prop
  | none => ∀ x, Is k t0 t1 x → x.testBit 2 ≠ f1
  | some p => Is k t0 t1 p.1 ∧ p.2 = co l k p.1 ∧ ∀ x, Is k t0 t1 x → x.testBit 2 = f1 → Lx p.2 p.1 (co l k x) x
theorem sb_sc {l : List Bool} {k : Nat} {m0 : Mp} (h : ∀ s0 s1, Best l k s0 s1 (m0 s0 s1)) (t0 t1 f1 : Bool) : Sb l (k + 1) t0 t1 f1 (sc (l.getD (2 * k) false) (l.getD (2 * k + 1) false) m0 t1 f1 t0) := by
  have hb := h t1 f1
  unfold sc
  cases ho : m0 t1 f1 with
  | none =>
    rw [ho] at hb
    intro x hx e
    have := (is_up hx).1
    rw [e] at this
    exact hb _ this
  | some p =>
    rw [ho] at hb
    obtain ⟨h1, h2, h3⟩ := hb
    obtain ⟨i1, i2⟩ := is_of (t0 := t0) h1
    refine ⟨i1, ?_, ?_⟩
    · show p.2 + _ = co l (k + 1) (2 * p.1 + t0.toNat)
      rw [co_up l i1, i2, half_wi, h2]
    · intro x hx e
      obtain ⟨u1, u2⟩ := is_up hx
      rw [e] at u1
      have := h3 _ u1
      rw [co_up l hx, e]
      show Lx (p.2 + _) (2 * p.1 + t0.toNat) _ x
      unfold Lx at this ⊢
      omega
theorem kp_cases (p q : Nat × Nat) : (kp (some p) q = q ∧ Lx q.2 q.1 p.2 p.1) ∨ (kp (some p) q = p ∧ Lx p.2 p.1 q.2 q.1) := by
  show ((if bt q p = true then q else p) = q ∧ _) ∨ ((if bt q p = true then q else p) = p ∧ _)
  unfold bt Lx
  by_cases h : q.2 = p.2
  · rw [if_pos h]
    by_cases h' : q.1 < p.1
    · left; simp [h']; omega
    · right; simp [h']; omega
  · rw [if_neg h]
    by_cases h' : q.2 < p.2
    · left; simp [h']
    · right; simp [h']; omega
theorem lx_trans {a x b y c z : Nat} (h : Lx a x b y) (k : Lx b y c z) : Lx a x c z := by
  unfold Lx at *
  omega
theorem best_next {l : List Bool} {k : Nat} {m0 : Mp} (h : ∀ s0 s1, Best l k s0 s1 (m0 s0 s1)) (t0 t1 : Bool) : Best l (k + 1) t0 t1 (lg (l.getD (2 * k) false) (l.getD (2 * k + 1) false) m0 t0 t1) := by
  rw [lg_at]
  have a0 := sb_sc h t0 t1 false
  have a1 := sb_sc h t0 t1 true
  generalize sc _ _ m0 t1 false t0 = o0 at *
  generalize sc _ _ m0 t1 true t0 = o1 at *
  cases o0 with
  | none =>
    cases o1 with
    | none =>
      intro x hx
      cases e : x.testBit 2
      · exact a0 x hx e
      · exact a1 x hx e
    | some q =>
      obtain ⟨h1, h2, h3⟩ := a1
      refine ⟨h1, h2, fun x hx => ?_⟩
      cases e : x.testBit 2
      · exact absurd e (a0 x hx)
      · exact h3 x hx e
  | some p =>
    obtain ⟨g1, g2, g3⟩ := a0
    cases o1 with
    | none =>
      refine ⟨g1, g2, fun x hx => ?_⟩
      cases e : x.testBit 2
      · exact g3 x hx e
      · exact absurd e (a1 x hx)
    | some q =>
      obtain ⟨h1, h2, h3⟩ := a1
      show Best l (k + 1) t0 t1 (some (kp (some p) q))
      rcases kp_cases p q with ⟨e, hl⟩ | ⟨e, hl⟩
      · rw [e]
        refine ⟨h1, h2, fun x hx => ?_⟩
        cases e' : x.testBit 2
        · exact lx_trans hl (g3 x hx e')
        · exact h3 x hx e'
      · rw [e]
        refine ⟨g1, g2, fun x hx => ?_⟩
        cases e' : x.testBit 2
        · exact g3 x hx e'
        · exact lx_trans hl (h3 x hx e')

/-- All paths of so many pairs. -/
def ways (l : List Bool) : Nat → Mp
  | 0 => fun s0 s1 => if s0 = false ∧ s1 = false then some (0, 0) else none
  | k + 1 => lg (l.getD (2 * k) false) (l.getD (2 * k + 1) false) (ways l k)
theorem ways_best (l : List Bool) : ∀ k s0 s1, Best l k s0 s1 (ways l k s0 s1)
  | 0, s0, s1 => by
    show Best l 0 s0 s1 (if s0 = false ∧ s1 = false then some (0, 0) else none)
    by_cases h : s0 = false ∧ s1 = false
    · rw [if_pos h]
      obtain ⟨rfl, rfl⟩ := h
      exact ⟨⟨by decide, rfl, rfl⟩, rfl, fun x hx => Or.inr ⟨rfl, Nat.zero_le _⟩⟩
    · rw [if_neg h]
      rintro x ⟨h1, h2, h3⟩
      obtain rfl : x = 0 := by simpa using h1
      exact h ⟨h2.symm.trans (by decide), h3.symm.trans (by decide)⟩
  | k + 1, s0, s1 => best_next (ways_best l k) s0 s1
theorem ways_le (l : List Bool) {k : Nat} {s0 s1 : Bool} {p : Nat × Nat} (h : ways l k s0 s1 = some p) : p.1 < 2 ^ k ∧ p.2 ≤ 2 * k := by
  have := ways_best l k s0 s1
  rw [h] at this
  obtain ⟨h1, h2, _⟩ := this
  exact ⟨h1.1, by rw [h2]; exact co_le _ _ _⟩

/-- The first of the least. -/
def lst (f : Nat → Nat) : Nat → Nat
  | 0 => 0
  | m + 1 => if f (m + 1) < f (lst f m) then m + 1 else lst f m
theorem lst_le (f : Nat → Nat) : ∀ m, lst f m ≤ m
  | 0 => Nat.le_refl _
  | m + 1 => by
    have := lst_le f m
    unfold lst
    split <;> omega
theorem lst_min (f : Nat → Nat) : ∀ m y, y ≤ m → Lx (f (lst f m)) (lst f m) (f y) y
  | 0, y, h => by
    obtain rfl : y = 0 := by omega
    exact .inr ⟨rfl, Nat.le_refl _⟩
  | m + 1, y, h => by
    unfold lst
    by_cases hf : f (m + 1) < f (lst f m)
    · rw [if_pos hf]
      by_cases e : y = m + 1
      · subst e; exact .inr ⟨rfl, Nat.le_refl _⟩
      · have := lst_min f m y (by omega)
        unfold Lx at *
        omega
    · rw [if_neg hf]
      by_cases e : y = m + 1
      · subst e
        have := lst_le f m
        unfold Lx
        omega
      · exact lst_min f m y (by omega)

theorem tr_even (d : List Bool) (k j : Nat) (h : j < k) : (tk d k).getD (2 * j) false = p1 d j ∧ (tk d k).getD (2 * j + 1) false = p2 d j := by
  induction k with
  | zero => omega
  | succ k ih =>
    show (tk d k ++ [p1 d k, p2 d k]).getD (2 * j) false = _ ∧ (tk d k ++ [p1 d k, p2 d k]).getD (2 * j + 1) false = _
    have hl := tk_len d k
    by_cases e : j = k
    · subst e
      constructor
      · rw [List.getD_eq_getElem?_getD, List.getElem?_append_right (by omega), hl, Nat.sub_self]; rfl
      · rw [List.getD_eq_getElem?_getD, List.getElem?_append_right (by omega), hl, Nat.add_sub_cancel_left]; rfl
    · obtain ⟨a, b⟩ := ih (by omega)
      constructor
      · rw [List.getD_eq_getElem?_getD, List.getElem?_append_left (by omega), ← List.getD_eq_getElem?_getD, a]
      · rw [List.getD_eq_getElem?_getD, List.getElem?_append_left (by omega), ← List.getD_eq_getElem?_getD, b]

/-- The bits ahead, of data as a number. -/
theorem ga_dg {y n : Nat} (hy : y < 2 ^ n) {k j : Nat} (hk : k < n + 2) : ga (dg y n) k j = (4 * y).testBit (n + 1 - k + j) := by
  have h4 : (4 * y).testBit (n + 1 - k + j) = (decide (2 ≤ n + 1 - k + j) && y.testBit (n + 1 - k + j - 2)) := by
    rw [show 4 * y = 2 ^ 2 * y from rfl, Nat.testBit_two_pow_mul]
  rw [h4]
  unfold ga
  by_cases h : j ≤ k
  · rw [if_pos h]
    by_cases h2 : k - j < n
    · rw [dg_at _ _ _ h2, decide_eq_true (by omega), Bool.true_and]
      congr 1
      omega
    · rw [decide_eq_false (by omega), Bool.false_and, List.getD_eq_getElem?_getD, List.getElem?_eq_none (by rw [dg_length]; omega)]; rfl
  · rw [if_neg h, Nat.testBit_lt_two_pow (Nat.lt_of_lt_of_le hy (Nat.pow_le_pow_right (by decide) (by omega))), Bool.and_false]

theorem ct_two (f : Nat → Bool) (k : Nat) : ct f (2 * (k + 1)) = ct f (2 * k) + ((if f (2 * k) then 1 else 0) + (if f (2 * k + 1) then 1 else 0)) := by
  show ct f (2 * k) + (if f (2 * k) then 1 else 0) + (if f (2 * k + 1) then 1 else 0) = _
  omega

theorem co_ct (l : List Bool) {y n : Nat} (hy : y < 2 ^ n) : ∀ k, k ≤ n + 2 → co l k (4 * y / 2 ^ (n + 2 - k)) = ct (fun i => (tr (dg y n)).getD i false != l.getD i false) (2 * k)
  | 0, _ => rfl
  | k + 1, hk => by
    have ih := co_ct l hy k (by omega)
    rw [ct_two, ← ih]
    show co l k (4 * y / 2 ^ (n + 2 - (k + 1)) / 2) + _ = _
    have e1 : 4 * y / 2 ^ (n + 2 - (k + 1)) / 2 = 4 * y / 2 ^ (n + 2 - k) := by
      rw [Nat.div_div_eq_div_mul, ← Nat.pow_succ, show (n + 2 - (k + 1)).succ = n + 2 - k by omega]
    rw [e1]
    congr 1
    have hd := tr_even (dg y n) (n + 2) k (by omega)
    have ht : tr (dg y n) = tk (dg y n) (n + 2) := by unfold tr; rw [dg_length]
    rw [ht, hd.1, hd.2]
    have g : ∀ j, (4 * y / 2 ^ (n + 2 - (k + 1))).testBit j = ga (dg y n) k j := fun j => by
      rw [Nat.testBit_div_two_pow, ga_dg hy (by omega)]
      congr 1
      omega
    rw [g, g, g]
    unfold ac p1 p2
    cases ga (dg y n) k 0 <;> cases ga (dg y n) k 1 <;> cases ga (dg y n) k 2 <;> rfl
theorem co_df {l : List Bool} {y n : Nat} (hy : y < 2 ^ n) : co l (n + 2) (4 * y) = df (tr (dg y n)) l := by
  have := co_ct l hy (n + 2) (Nat.le_refl _)
  rw [Nat.sub_self, Nat.pow_zero, Nat.div_one] at this
  rw [this]
  unfold df
  rw [tr_len, dg_length]
  congr 1
theorem is_four {n x : Nat} (h : Is (n + 2) false false x) : ∃ y, x = 4 * y ∧ y < 2 ^ n := by
  obtain ⟨h1, h2, h3⟩ := h
  rw [Nat.testBit_zero] at h2
  rw [bit_half, Nat.testBit_zero] at h3
  simp at h2 h3
  refine ⟨x / 4, by omega, ?_⟩
  rw [Nat.pow_succ, Nat.pow_succ] at h1
  omega
theorem four_is {n y : Nat} (h : y < 2 ^ n) : Is (n + 2) false false (4 * y) := by
  refine ⟨by rw [Nat.pow_succ, Nat.pow_succ]; omega, ?_, ?_⟩
  · rw [Nat.testBit_zero, decide_eq_false (by omega)]
  · rw [bit_half, Nat.testBit_zero, decide_eq_false (by omega)]

/-- At how many places what is put for data, as a number, is not what came. -/
def nd (l : List Bool) (n y : Nat) : Nat := df (tr (dg y n)) l
/-- The nearest data, the first of several. -/
def gy (l : List Bool) (n : Nat) : Nat := lst (nd l n) (2 ^ n - 1)
theorem gy_lt (l : List Bool) (n : Nat) : gy l n < 2 ^ n := by
  have := lst_le (nd l n) (2 ^ n - 1)
  have h2 := Nat.two_pow_pos n
  unfold gy
  omega
theorem gy_min (l : List Bool) (n : Nat) {y : Nat} (h : y < 2 ^ n) : Lx (nd l n (gy l n)) (gy l n) (nd l n y) y := lst_min _ _ _ (by omega)
theorem ways_end (l : List Bool) (n : Nat) : ways l (n + 2) false false = some (4 * gy l n, nd l n (gy l n)) := by
  have hb := ways_best l (n + 2) false false
  have hi := four_is (gy_lt l n)
  cases hw : ways l (n + 2) false false with
  | none =>
    rw [hw] at hb
    exact absurd hi (hb _)
  | some p =>
    rw [hw] at hb
    obtain ⟨h1, h2, h3⟩ := hb
    obtain ⟨y, hy, hlt⟩ := is_four h1
    have a := h3 _ hi
    rw [co_df (gy_lt l n)] at a
    rw [hy, co_df hlt] at h2
    have b := gy_min l n hlt
    obtain ⟨p1, p2⟩ := p
    simp only at *
    have c : nd l n (gy l n) = df (tr (dg (gy l n) n)) l := rfl
    have c' : nd l n y = df (tr (dg y n)) l := rfl
    rw [← c] at a
    rw [← c'] at h2
    unfold Lx at a b
    have : y = gy l n := by omega
    subst this
    rw [hy, h2]

/-- All lists of bits are those of numbers. -/
theorem dg_has : ∀ (n : Nat) (d : List Bool), d.length = n → ∃ x, x < 2 ^ n ∧ dg x n = d
  | 0, d, h => ⟨0, by decide, by rw [List.eq_nil_of_length_eq_zero h]; rfl⟩
  | n + 1, d, h => by
    obtain ⟨x, hx, he⟩ := dg_has n (d.take n) (by rw [List.length_take]; omega)
    refine ⟨2 * x + (d.getD n false).toNat, ?_, ?_⟩
    · have : (d.getD n false).toNat ≤ 1 := by cases d.getD n false <;> decide
      rw [Nat.pow_succ]; omega
    · refine same_of (by rw [dg_length, h]) (fun i hi => ?_)
      rw [dg_length] at hi
      rw [dg_at _ _ _ hi]
      by_cases e : i = n
      · subst e
        rw [show i + 1 - 1 - i = 0 by omega, bit_wi0]
      · have h1 : (dg x n).getD i false = (d.take n).getD i false := by rw [he]
        rw [dg_at _ _ _ (by omega)] at h1
        rw [show n + 1 - 1 - i = (n - 1 - i) + 1 by omega, bit_half, half_wi, h1, List.getD_eq_getElem?_getD, List.getElem?_take_of_lt (by omega), ← List.getD_eq_getElem?_getD]

/-! Two data. -/
theorem ct_mono (f : Nat → Bool) {m n : Nat} (h : m ≤ n) : ct f m ≤ ct f n := by
  induction n with
  | zero => rw [Nat.le_zero.1 h]; exact Nat.le_refl _
  | succ n ih =>
    by_cases e : m = n + 1
    · rw [e]; exact Nat.le_refl _
    · have := ih (by omega)
      show _ ≤ ct f n + _
      omega
/-- What is not the same of two data, ahead of a place. -/
def gx (a b : List Bool) (i k : Nat) : Bool := ga a i k != ga b i k
theorem p1_gx (a b : List Bool) (i : Nat) : (p1 a i != p1 b i) = ((gx a b i 0 != gx a b i 1) != gx a b i 2) := by
  unfold p1 gx
  cases ga a i 0 <;> cases ga a i 1 <;> cases ga a i 2 <;> cases ga b i 0 <;> cases ga b i 1 <;> cases ga b i 2 <;> rfl
theorem p2_gx (a b : List Bool) (i : Nat) : (p2 a i != p2 b i) = (gx a b i 0 != gx a b i 2) := by
  unfold p2 gx
  cases ga a i 0 <;> cases ga a i 2 <;> cases ga b i 0 <;> cases ga b i 2 <;> rfl
theorem gx_shift (a b : List Bool) (i k j : Nat) : gx a b (i + j) (k + j) = gx a b i k := by
  induction j with
  | zero => rfl
  | succ j ih =>
    rw [← ih]
    unfold gx
    rw [← Nat.add_assoc, ← Nat.add_assoc, ga_next, ga_next]
theorem first_of (P : Nat → Bool) : ∀ n, (∃ i, i < n ∧ P i = true) → ∃ i, i < n ∧ P i = true ∧ ∀ j, j < i → P j = false
  | 0, ⟨i, h, _⟩ => by omega
  | n + 1, ⟨i, h, hp⟩ => by
    by_cases hs : ∃ i, i < n ∧ P i = true
    · obtain ⟨i, h1, h2, h3⟩ := first_of P n hs
      exact ⟨i, by omega, h2, h3⟩
    · refine ⟨n, by omega, ?_, fun j hj => ?_⟩
      · by_cases e : i = n
        · rw [← e]; exact hp
        · exact absurd ⟨i, by omega, hp⟩ hs
      · cases hj' : P j
        · rfl
        · exact absurd ⟨j, hj, hj'⟩ hs
theorem last_of (P : Nat → Bool) : ∀ n, (∃ i, i < n ∧ P i = true) → ∃ i, i < n ∧ P i = true ∧ ∀ j, i < j → j < n → P j = false
  | 0, ⟨i, h, _⟩ => by omega
  | n + 1, ⟨i, h, hp⟩ => by
    cases hn : P n
    · obtain ⟨i', h1, h2, h3⟩ := last_of P n ⟨i, by
        by_cases e : i = n
        · rw [e, hn] at hp; cases hp
        · omega, hp⟩
      refine ⟨i', by omega, h2, fun j hj hj' => ?_⟩
      by_cases e : j = n
      · rw [e]; exact hn
      · exact h3 j hj (by omega)
    · exact ⟨n, by omega, hn, fun j hj hj' => by omega⟩

theorem tr_far {a b : List Bool} (hl : a.length = b.length) (h : df (tr a) (tr b) ≤ 4) : a = b := by
  obtain ⟨n, hn⟩ : ∃ n, a.length = n := ⟨_, rfl⟩
  have hnb : b.length = n := by omega
  refine same_of hl (fun i0 hi0 => ?_)
  rw [hn] at hi0
  cases hne : (a.getD i0 false != b.getD i0 false)
  · simpa using hne
  exfalso
  -- what is not the same, place by place
  obtain ⟨P, hP⟩ : ∃ P : Nat → Bool, ∀ i, P i = (a.getD i false != b.getD i false) := ⟨_, fun _ => rfl⟩
  have hPn : ∀ i, n ≤ i → P i = false := fun i hi => by
    rw [hP, List.getD_eq_getElem?_getD, List.getElem?_eq_none (by omega), List.getD_eq_getElem?_getD, List.getElem?_eq_none (by omega)]; rfl
  have hg0 : ∀ i, gx a b i 0 = P i := fun i => by unfold gx; rw [ga_zero, ga_zero, hP]
  have hg : ∀ i k, k ≤ i → gx a b i k = P (i - k) := fun i k hk => by
    obtain ⟨j, rfl⟩ : ∃ j, i = j + k := ⟨i - k, by omega⟩
    have := gx_shift a b j 0 k
    rw [Nat.zero_add] at this
    rw [this, hg0, Nat.add_sub_cancel]
  have hgn : ∀ i k, i < k → gx a b i k = false := fun i k hk => by
    unfold gx ga
    rw [if_neg (by omega), if_neg (by omega)]; rfl
  have hex : ∃ i, i < n ∧ P i = true := ⟨i0, hi0, by rw [hP]; exact hne⟩
  obtain ⟨i, hi, hpi, hbi⟩ := first_of P n hex
  obtain ⟨j, hj, hpj, haj⟩ := last_of P n hex
  have hij : i ≤ j := by
    rcases Nat.lt_or_ge j i with h' | h'
    · rw [hbi j h'] at hpj; cases hpj
    · exact h'
  obtain ⟨f, hf⟩ : ∃ f : Nat → Bool, f = fun k => (tr a).getD k false != (tr b).getD k false := ⟨_, rfl⟩
  have hf0 : ∀ k, k < n + 2 → f (2 * k) = ((gx a b k 0 != gx a b k 1) != gx a b k 2) ∧ f (2 * k + 1) = (gx a b k 0 != gx a b k 2) := fun k hk => by
    have ea : tr a = tk a (n + 2) := by unfold tr; rw [hn]
    have eb : tr b = tk b (n + 2) := by unfold tr; rw [hnb]
    have h1 := tr_even a (n + 2) k hk
    have h2 := tr_even b (n + 2) k hk
    rw [hf]
    simp only [ea, eb, h1, h2]
    exact ⟨p1_gx a b k, p2_gx a b k⟩
  have hdf : df (tr a) (tr b) = ct f (2 * (n + 2)) := by
    unfold df
    rw [tr_len, hn, hf, show 2 * n + 4 = 2 * (n + 2) by omega]
  -- the first pair
  have z1 : gx a b i 1 = false := by
    rcases Nat.lt_or_ge i 1 with h' | h'
    · exact hgn _ _ h'
    · rw [hg _ _ h']; exact hbi _ (by omega)
  have z2 : gx a b i 2 = false := by
    rcases Nat.lt_or_ge i 2 with h' | h'
    · exact hgn _ _ h'
    · rw [hg _ _ h']; exact hbi _ (by omega)
  have c1 : ct f (2 * (i + 1)) = ct f (2 * i) + 2 := by
    rw [ct_two, (hf0 i (by omega)).1, (hf0 i (by omega)).2, hg0, hpi, z1, z2]; rfl
  -- the pair behind the last one
  have q0 : P (j + 1) = false := by
    rcases Nat.lt_or_ge (j + 1) n with h' | h'
    · exact haj _ (by omega) h'
    · exact hPn _ h'
  have q1 : P (j + 2) = false := by
    rcases Nat.lt_or_ge (j + 2) n with h' | h'
    · exact haj _ (by omega) h'
    · exact hPn _ h'
  have c2 : ct f (2 * (j + 1 + 1)) = ct f (2 * (j + 1)) + 1 := by
    rw [ct_two, (hf0 (j + 1) (by omega)).1, (hf0 (j + 1) (by omega)).2, hg0, q0, hg (j + 1) 1 (by omega), Nat.add_sub_cancel, hpj]
    cases gx a b (j + 1) 2 <;> rfl
  have c3 : ct f (2 * (j + 2 + 1)) = ct f (2 * (j + 2)) + 2 := by
    rw [ct_two, (hf0 (j + 2) (by omega)).1, (hf0 (j + 2) (by omega)).2, hg0, q1, hg (j + 2) 1 (by omega), hg (j + 2) 2 (by omega), show j + 2 - 1 = j + 1 by omega, Nat.add_sub_cancel, q0, hpj]; rfl
  have m1 := ct_mono f (show 2 * (i + 1) ≤ 2 * (j + 1) by omega)
  have m2 := ct_mono f (show 2 * (j + 2 + 1) ≤ 2 * (n + 2) by omega)
  have e1 : 2 * (j + 1 + 1) = 2 * (j + 2) := by omega
  rw [e1] at c2
  omega

end Go.Proofs.YtnkhlohoaoiefaaDoor
