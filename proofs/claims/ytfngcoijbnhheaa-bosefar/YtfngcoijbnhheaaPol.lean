/-
  In plain mathematics: what bits leave, divided by a polynomial with numbers 0 and 1, as a word; bit by bit, and by taking the polynomial away where the greatest power still stands.
-/
import Derived.Test.YtfngcoijbnhheaaCho
namespace Go.Proofs.Ytfngcoijbnhheaa

/-- A polynomial that may divide. -/
def G (g : Nat) : Prop := g.testBit 0 = true ∧ 1 < g ∧ g ≤ 131071

theorem G.deg {g : Nat} (h : G g) : 1 ≤ g.log2 ∧ g.log2 ≤ 16 := by
  obtain ⟨_, h1, h2⟩ := h
  constructor
  · exact (Nat.le_log2 (by omega)).2 (by omega)
  · have : g.log2 < 17 := (Nat.log2_lt (by omega)).2 (by omega)
    omega
theorem G.low {g : Nat} (h : G g) : 2 ^ g.log2 ≤ g := Nat.log2_self_le (by obtain ⟨_, h1, _⟩ := h; omega)
theorem G.high {g : Nat} (_ : G g) : g < 2 ^ (g.log2 + 1) := Nat.lt_log2_self
theorem G.top {g : Nat} (h : G g) : g.testBit g.log2 = true := by
  rw [Nat.testBit_eq_decide_div_mod_eq, decide_eq_true_eq]
  have h1 := h.low
  have h2 := h.high
  have hp := Nat.two_pow_pos g.log2
  rw [Nat.pow_succ] at h2
  generalize 2 ^ g.log2 = P at *
  have : g / P = 1 := by
    apply Nat.div_eq_of_lt_le
    · omega
    · omega
  rw [this]
theorem G.over {g i : Nat} (h : G g) (hi : g.log2 < i) : g.testBit i = false :=
  Nat.testBit_lt_two_pow (Nat.lt_of_lt_of_le h.high (Nat.pow_le_pow_right (by omega) hi))

/-- One more bit behind. -/
def sh (x : Nat) (b : Bool) : Nat := 2 * x + b.toNat
theorem sh_at (x : Nat) (b : Bool) (i : Nat) : (sh x b).testBit i = if i = 0 then b else x.testBit (i - 1) := by
  unfold sh
  cases i with
  | zero =>
    rw [if_pos rfl, Nat.testBit_zero]
    cases b
    · simp
    · simp
  | succ i =>
    rw [if_neg (by omega), Nat.testBit_succ]
    have : (2 * x + b.toNat) / 2 = x := by cases b <;> simp <;> omega
    rw [this, Nat.add_sub_cancel]

/-- One step of the division: one more bit, and g taken away where its greatest power stands. -/
def st (g x : Nat) (b : Bool) : Nat := sh x b ^^^ (if x.testBit (g.log2 - 1) then g else 0)
theorem st_at (g x : Nat) (b : Bool) (i : Nat) : (st g x b).testBit i = ((if i = 0 then b else x.testBit (i - 1)) != (x.testBit (g.log2 - 1) && g.testBit i)) := by
  unfold st
  rw [Nat.testBit_xor, sh_at]
  cases x.testBit (g.log2 - 1) <;> simp
theorem lt_of_bits {x n : Nat} (h : ∀ i, n ≤ i → x.testBit i = false) : x < 2 ^ n := Nat.lt_pow_two_of_testBit x (fun i hi => h i hi)
theorem st_lt {g x : Nat} (hg : G g) (hx : x < 2 ^ g.log2) (b : Bool) : st g x b < 2 ^ g.log2 := by
  have hd := hg.deg
  apply lt_of_bits
  intro i hi
  rw [st_at, if_neg (by omega)]
  by_cases h : i = g.log2
  · rw [h, hg.top]
    cases x.testBit (g.log2 - 1) <;> rfl
  · rw [hg.over (by omega), Nat.testBit_lt_two_pow (Nat.lt_of_lt_of_le hx (Nat.pow_le_pow_right (by omega) (by omega)))]
    simp
theorem st_xor (g x y : Nat) (a b : Bool) : st g (x ^^^ y) (a != b) = st g x a ^^^ st g y b := by
  apply Nat.eq_of_testBit_eq
  intro i
  rw [Nat.testBit_xor, st_at, st_at, st_at, Nat.testBit_xor, Nat.testBit_xor]
  by_cases h : i = 0
  · rw [if_pos h, if_pos h, if_pos h]
    cases x.testBit (g.log2 - 1) <;> cases y.testBit (g.log2 - 1) <;> cases g.testBit i <;> cases a <;> cases b <;> rfl
  · rw [if_neg h, if_neg h, if_neg h]
    cases x.testBit (g.log2 - 1) <;> cases y.testBit (g.log2 - 1) <;> cases g.testBit i <;> cases x.testBit (i - 1) <;> cases y.testBit (i - 1) <;> rfl
theorem st_zero (g : Nat) : st g 0 false = 0 := by
  apply Nat.eq_of_testBit_eq
  intro i
  rw [st_at]
  simp
theorem st_back {g x : Nat} (hg : G g) (h : st g x false = 0) : x = 0 := by
  have h0 := st_at g x false 0
  rw [h, Nat.zero_testBit, if_pos rfl, hg.1] at h0
  have ht : x.testBit (g.log2 - 1) = false := by
    cases hx : x.testBit (g.log2 - 1)
    · rfl
    · rw [hx] at h0; cases h0
  apply Nat.eq_of_testBit_eq
  intro i
  have hi := st_at g x false (i + 1)
  rw [h, Nat.zero_testBit, if_neg (by omega), ht, Bool.false_and, Bool.bne_false] at hi
  rw [Nat.zero_testBit]
  exact hi.symm

/-- What the first k bits leave. -/
def rn (g : Nat) (f : Nat → Bool) : Nat → Nat
  | 0 => 0
  | k + 1 => st g (rn g f k) (f k)
theorem rn_congr {g : Nat} {f h : Nat → Bool} : ∀ k, (∀ i, i < k → f i = h i) → rn g f k = rn g h k
  | 0, _ => rfl
  | k + 1, e => by
    show st g (rn g f k) (f k) = st g (rn g h k) (h k)
    rw [rn_congr k (fun i hi => e i (by omega)), e k (by omega)]
theorem rn_lt {g : Nat} (hg : G g) (f : Nat → Bool) : ∀ k, rn g f k < 2 ^ g.log2
  | 0 => Nat.two_pow_pos _
  | k + 1 => st_lt hg (rn_lt hg f k) _
theorem rn_xor (g : Nat) (f h : Nat → Bool) : ∀ k, rn g (fun i => f i != h i) k = rn g f k ^^^ rn g h k
  | 0 => by show 0 = 0 ^^^ 0; rfl
  | k + 1 => by
    show st g (rn g _ k) _ = _
    rw [rn_xor g f h k, st_xor]; rfl
theorem rn_zero (g : Nat) (f : Nat → Bool) : ∀ k, (∀ i, i < k → f i = false) → rn g f k = 0
  | 0, _ => rfl
  | k + 1, h => by
    show st g (rn g f k) (f k) = 0
    rw [rn_zero g f k (fun i hi => h i (by omega)), h k (by omega), st_zero]
theorem rn_few {g : Nat} (hg : G g) (f : Nat → Bool) (m : Nat) : ∀ k, (∀ i, m ≤ i → i < m + k → f i = false) → rn g f (m + k) = 0 → rn g f m = 0
  | 0, _, h => h
  | k + 1, e, h => by
    have h' : st g (rn g f (m + k)) (f (m + k)) = 0 := h
    rw [e (m + k) (by omega) (by omega)] at h'
    exact rn_few hg f m k (fun i h1 h2 => e i h1 (by omega)) (st_back hg h')
/-- As many bits as the degree, at most, behind none: they stand there. -/
theorem rn_tail {g : Nat} (_ : G g) (f : Nat → Bool) (n : Nat) (h0 : ∀ i, i < n → f i = false) : ∀ j, j ≤ g.log2 → ∀ i, (rn g f (n + j)).testBit i = (decide (i < j) && f (n + j - 1 - i))
  | 0, _, i => by
    rw [show rn g f (n + 0) = 0 from rn_zero g f n h0, Nat.zero_testBit]
    simp
  | j + 1, hj, i => by
    have ih := rn_tail ‹_› f n h0 j (by omega)
    show (st g (rn g f (n + j)) (f (n + j))).testBit i = _
    rw [st_at, ih (g.log2 - 1), decide_eq_false (by omega), Bool.false_and, Bool.false_and, Bool.bne_false]
    by_cases h : i = 0
    · rw [if_pos h, h]
      simp
    · rw [if_neg h, ih]
      have e1 : decide (i - 1 < j) = decide (i < j + 1) := by rw [Bool.eq_iff_iff]; simp; omega
      rw [e1]
      by_cases hi : i < j + 1
      · rw [show n + j - 1 - (i - 1) = n + (j + 1) - 1 - i by omega]
      · rw [decide_eq_false hi, Bool.false_and, Bool.false_and]

/-- What bits leave. -/
def rs (g : Nat) (l : List Bool) : Nat := rn g (fun i => l.getD i false) l.length
theorem rs_lt {g : Nat} (hg : G g) (l : List Bool) : rs g l < 2 ^ g.log2 := rn_lt hg _ _
theorem rs_small {g : Nat} (hg : G g) (l : List Bool) : rs g l < 65536 := by
  have := rs_lt hg l
  have h2 : 2 ^ g.log2 ≤ 2 ^ 16 := Nat.pow_le_pow_right (by omega) hg.deg.2
  omega

/-- Digits of a number, the greatest first. -/
def dg (t s : Nat) : List Bool := (List.range s).map (fun i => t.testBit (s - 1 - i))
theorem dg_length (t s : Nat) : (dg t s).length = s := by simp [dg]
theorem dg_at (t s i : Nat) (h : i < s) : (dg t s).getD i false = t.testBit (s - 1 - i) := by
  unfold dg
  simp [List.getD_eq_getElem?_getD, h]

theorem app_at (l m : List Bool) (i : Nat) : (l ++ m).getD i false = if i < l.length then l.getD i false else m.getD (i - l.length) false := by
  by_cases h : i < l.length
  · rw [if_pos h, List.getD_eq_getElem?_getD, List.getElem?_append_left h, List.getD_eq_getElem?_getD]
  · rw [if_neg h, List.getD_eq_getElem?_getD, List.getElem?_append_right (by omega), List.getD_eq_getElem?_getD]
theorem getD_over (l : List Bool) (i : Nat) (h : l.length ≤ i) : l.getD i false = false := by
  rw [List.getD_eq_getElem?_getD, List.getElem?_eq_none h]; rfl

/-- What is put: the bits, and behind them those that make all leave nothing. -/
def pt (g : Nat) (l : List Bool) : List Bool := l ++ dg (rs g (l ++ List.replicate g.log2 false)) g.log2
theorem pt_len (g : Nat) (l : List Bool) : (pt g l).length = l.length + g.log2 := by simp [pt, dg_length]
theorem zeros_at (d i : Nat) : (List.replicate d false).getD i false = false := by
  by_cases h : i < d
  · simp [List.getD_eq_getElem?_getD, h]
  · exact getD_over _ _ (by simpa using h)
theorem rs_zeros (g : Nat) (l : List Bool) : rs g (l ++ List.replicate g.log2 false) = rn g (fun i => l.getD i false) (l.length + g.log2) := by
  unfold rs
  rw [List.length_append, List.length_replicate]
  refine rn_congr _ (fun i _ => ?_)
  show (l ++ _).getD i false = _
  rw [app_at, zeros_at]
  split
  · rfl
  · rw [getD_over l i (by omega)]
/-- Bits with what they leave behind them leave nothing. -/
theorem rs_pt {g : Nat} (hg : G g) (l : List Bool) : rs g (pt g l) = 0 := by
  obtain ⟨x, hx⟩ : ∃ x, rs g (l ++ List.replicate g.log2 false) = x := ⟨_, rfl⟩
  have hlt : x < 2 ^ g.log2 := by rw [← hx]; exact rs_lt hg _
  have e : rs g (pt g l) = rn g (fun i => l.getD i false != (decide (l.length ≤ i) && x.testBit (l.length + g.log2 - 1 - i))) (l.length + g.log2) := by
    unfold rs
    rw [pt_len]
    refine rn_congr _ (fun i hi => ?_)
    unfold pt
    show (l ++ _).getD i false = _
    rw [app_at, hx]
    by_cases h : i < l.length
    · rw [if_pos h, decide_eq_false (by omega), Bool.false_and, Bool.bne_false]
    · rw [if_neg h, decide_eq_true (by omega), Bool.true_and, getD_over l i (by omega), dg_at _ _ _ (by omega), Bool.false_bne]
      congr 1
      omega
  rw [e, rn_xor, ← rs_zeros, hx]
  have t : rn g (fun i => decide (l.length ≤ i) && x.testBit (l.length + g.log2 - 1 - i)) (l.length + g.log2) = x := by
    apply Nat.eq_of_testBit_eq
    intro i
    rw [rn_tail hg _ l.length (fun i hi => by rw [decide_eq_false (by omega)]; rfl) g.log2 (Nat.le_refl _)]
    by_cases hi : i < g.log2
    · rw [decide_eq_true hi, decide_eq_true (by omega), Bool.true_and, Bool.true_and]
      congr 1
      omega
    · rw [decide_eq_false hi, Bool.false_and, Nat.testBit_lt_two_pow (Nat.lt_of_lt_of_le hlt (Nat.pow_le_pow_right (by omega) (by omega)))]
  rw [t, Nat.xor_self]
/-- Bits that leave nothing are what is put for those ahead. -/
theorem pt_back {g : Nat} (hg : G g) (l : List Bool) (n : Nat) (hl : l.length = n + g.log2) (h0 : rs g l = 0) : pt g (l.take n) = l := by
  have hn : (l.take n).length = n := by rw [List.length_take]; omega
  have e : rs g l = rs g (l.take n ++ List.replicate g.log2 false) ^^^ rn g (fun i => decide (n ≤ i) && l.getD i false) (n + g.log2) := by
    rw [rs_zeros, hn, ← rn_xor]
    unfold rs
    rw [hl]
    refine rn_congr _ (fun i hi => ?_)
    show l.getD i false = ((l.take n).getD i false != _)
    by_cases h : i < n
    · rw [decide_eq_false (by omega), Bool.false_and, Bool.bne_false, List.getD_eq_getElem?_getD, List.getD_eq_getElem?_getD, List.getElem?_take_of_lt h]
    · rw [decide_eq_true (by omega), Bool.true_and, getD_over (l.take n) i (by omega), Bool.false_bne]
  rw [h0] at e
  have e2 : rs g (l.take n ++ List.replicate g.log2 false) = rn g (fun i => decide (n ≤ i) && l.getD i false) (n + g.log2) := by
    apply Nat.eq_of_testBit_eq
    intro i
    have := congrArg (fun z => z.testBit i) e
    simp only [Nat.zero_testBit, Nat.testBit_xor] at this
    revert this
    cases (rs g (l.take n ++ List.replicate g.log2 false)).testBit i <;> cases (rn g (fun i => decide (n ≤ i) && l.getD i false) (n + g.log2)).testBit i <;> simp
  unfold pt
  rw [e2]
  apply List.ext_getElem
  · rw [List.length_append, dg_length, hn, hl]
  · intro i h1 h2
    have a : ∀ (m : List Bool) (h : i < m.length), m[i] = m.getD i false := fun m h => by simp [List.getD_eq_getElem?_getD, h]
    rw [a _ h1, a _ h2, app_at, hn]
    by_cases h : i < n
    · rw [if_pos h, List.getD_eq_getElem?_getD, List.getD_eq_getElem?_getD, List.getElem?_take_of_lt h]
    · rw [if_neg h, dg_at _ _ _ (by omega), rn_tail hg _ n (fun i hi => by rw [decide_eq_false (by omega)]; rfl) g.log2 (Nat.le_refl _), decide_eq_true (by omega), decide_eq_true (by omega), Bool.true_and, Bool.true_and]
      congr 1
      omega
/-- Peterson and Brown: bits that are set within as many as the degree leave something, unless none is. -/
theorem burst {g : Nat} (hg : G g) (e : Nat → Bool) (i n : Nat) (h1 : ∀ j, j < i → e j = false) (h2 : ∀ j, i + g.log2 ≤ j → j < n → e j = false) (hi : i ≤ n) (h0 : rn g e n = 0) : ∀ j, j < n → e j = false := by
  obtain ⟨k, hk, hkd, hz⟩ : ∃ k, i + k ≤ n ∧ k ≤ g.log2 ∧ ∀ j, i + k ≤ j → j < n → e j = false := by
    by_cases h : i + g.log2 ≤ n
    · exact ⟨g.log2, h, Nat.le_refl _, h2⟩
    · exact ⟨n - i, by omega, by omega, fun j h3 h4 => by omega⟩
  have hm : rn g e (i + k) = 0 := by
    refine rn_few hg e (i + k) (n - (i + k)) (fun j h3 h4 => hz j h3 (by omega)) ?_
    rw [show i + k + (n - (i + k)) = n by omega]
    exact h0
  intro j hj
  by_cases ha : j < i
  · exact h1 j ha
  by_cases hb : i + k ≤ j
  · exact hz j hb hj
  have := rn_tail hg e i h1 k hkd (i + k - 1 - j)
  rw [hm, Nat.zero_testBit, decide_eq_true (by omega), Bool.true_and, show i + k - 1 - (i + k - 1 - j) = j by omega] at this
  exact this.symm
/-- A polynomial with an even number of terms keeps whether an odd number is set. -/
theorem rn_odd {g : Nat} (hg : G g) (he : xs g.testBit 32 = false) (f : Nat → Bool) : ∀ k, xs (rn g f k).testBit 32 = xs f k
  | 0 => xs_false 32 (fun i _ => Nat.zero_testBit i)
  | k + 1 => by
    have ih := rn_odd hg he f k
    have hlt := rn_lt hg f k
    have hd := hg.deg
    show xs (st g (rn g f k) (f k)).testBit 32 = (xs f k != f k)
    rw [← ih]
    generalize rn g f k = x at *
    have e : xs (st g x (f k)).testBit 32 = xs (fun i => (if i = 0 then f k else x.testBit (i - 1)) != (x.testBit (g.log2 - 1) && g.testBit i)) 32 := xs_congr 32 (fun i _ => st_at g x (f k) i)
    rw [e, xs_xor]
    have e2 : xs (fun i => x.testBit (g.log2 - 1) && g.testBit i) 32 = false := by
      cases x.testBit (g.log2 - 1)
      · exact xs_false 32 (fun i _ => rfl)
      · rw [xs_congr (g := g.testBit) 32 (fun i _ => by simp)]; exact he
    rw [e2, Bool.bne_false, xs_front]
    have e3 : xs (fun i => if i + 1 = 0 then f k else x.testBit (i + 1 - 1)) 31 = xs x.testBit 31 := xs_congr 31 (fun i _ => by simp)
    have e4 : xs x.testBit 32 = xs x.testBit 31 := by
      show (xs x.testBit 31 != x.testBit 31) = _
      rw [Nat.testBit_lt_two_pow (Nat.lt_of_lt_of_le hlt (Nat.pow_le_pow_right (by omega) (by omega))), Bool.bne_false]
    rw [e3, e4, if_pos rfl]
    cases f k <;> cases xs x.testBit 31 <;> rfl

/-- The cells, once g was taken away at the first i places where it was to be. -/
def ce (g : Nat) (f : Nat → Bool) : Nat → Nat → Bool
  | 0 => f
  | i + 1 => fun j => ce g f i j != (ce g f i i && (decide (i ≤ j) && decide (j ≤ i + g.log2) && g.testBit (g.log2 - (j - i))))
theorem ce_is {g : Nat} (hg : G g) (f : Nat → Bool) : ∀ i j, ce g f i j = if j < i then false else if j < i + g.log2 then (rn g f (i + g.log2)).testBit (i + g.log2 - 1 - j) else f j
  | 0, j => by
    rw [if_neg (by omega)]
    show f j = _
    split
    · have := rn_tail hg f 0 (fun i hi => by omega) g.log2 (Nat.le_refl _) (0 + g.log2 - 1 - j)
      rw [this, decide_eq_true (by omega), Bool.true_and]
      congr 1
      omega
    · rfl
  | i + 1, j => by
    have ih := ce_is hg f i
    have hd := hg.deg
    have hx := rn_lt hg f (i + g.log2)
    show (ce g f i j != (ce g f i i && _)) = _
    rw [ih i, if_neg (by omega), if_pos (by omega), show i + g.log2 - 1 - i = g.log2 - 1 by omega]
    have hs : ∀ k, (rn g f (i + 1 + g.log2)).testBit k = ((if k = 0 then f (i + g.log2) else (rn g f (i + g.log2)).testBit (k - 1)) != ((rn g f (i + g.log2)).testBit (g.log2 - 1) && g.testBit k)) := fun k => by
      rw [show i + 1 + g.log2 = (i + g.log2) + 1 by omega]
      exact st_at g _ _ k
    rw [ih j]
    generalize rn g f (i + g.log2) = x at *
    generalize rn g f (i + 1 + g.log2) = y at *
    by_cases h1 : j < i
    · rw [if_pos h1, if_pos (by omega), decide_eq_false (by omega)]
      simp
    by_cases h2 : j = i
    · subst h2
      rw [if_neg h1, if_pos (by omega), if_pos (by omega), decide_eq_true (by omega), decide_eq_true (by omega), Nat.sub_self, Nat.sub_zero, hg.top, show j + g.log2 - 1 - j = g.log2 - 1 by omega]
      cases x.testBit (g.log2 - 1) <;> rfl
    by_cases h3 : j < i + 1 + g.log2
    · rw [if_neg h1, if_neg (by omega : ¬ j < i + 1), if_pos h3, hs, decide_eq_true (by omega), decide_eq_true (by omega), show i + 1 + g.log2 - 1 - j = g.log2 - (j - i) by omega, Bool.true_and, Bool.true_and]
      by_cases h4 : j < i + g.log2
      · rw [if_pos h4, if_neg (by omega), show i + g.log2 - 1 - j = g.log2 - (j - i) - 1 by omega]
      · rw [if_neg h4, if_pos (by omega), show j = i + g.log2 by omega]
    · rw [if_neg h1, if_neg (by omega), if_neg (by omega : ¬ j < i + 1), if_neg h3, decide_eq_false (by omega : ¬ j ≤ i + g.log2)]
      simp
/-- In the end the cells are the digits of what is left. -/
theorem ce_end {g : Nat} (hg : G g) (f : Nat → Bool) (n j : Nat) (hj : j < n) : ce g f (n - g.log2) j = (rn g f n).testBit (n - 1 - j) := by
  have hd := hg.deg
  have hx := rn_lt hg f n
  rw [ce_is hg]
  by_cases h : g.log2 ≤ n
  · rw [show n - g.log2 + g.log2 = n by omega]
    by_cases h1 : j < n - g.log2
    · rw [if_pos h1, Nat.testBit_lt_two_pow (Nat.lt_of_lt_of_le hx (Nat.pow_le_pow_right (by omega) (by omega)))]
    · rw [if_neg h1, if_pos hj]
  · have := rn_tail hg f 0 (fun i hi => by omega) n (by omega) (n - 1 - j)
    rw [Nat.zero_add] at this
    have h2 := rn_tail hg f 0 (fun i hi => by omega) g.log2 (Nat.le_refl _) (g.log2 - 1 - j)
    rw [Nat.zero_add] at h2
    rw [this, decide_eq_true (by omega), Bool.true_and, show n - g.log2 = 0 by omega, if_neg (by omega), if_pos (by omega), Nat.zero_add, h2, decide_eq_true (by omega), Bool.true_and]
    congr 1
    omega

/-- The sum of the first k of n digits, each at its place. -/
def sd (x n k : Nat) : Nat := x / 2 ^ (n - k) * 2 ^ (n - k)
theorem sd_zero {x n : Nat} (h : x < 2 ^ n) : sd x n 0 = 0 := by
  unfold sd
  rw [Nat.sub_zero, Nat.div_eq_of_lt h, Nat.zero_mul]
theorem sd_all (x n : Nat) : sd x n n = x := by
  unfold sd
  rw [Nat.sub_self, Nat.pow_zero, Nat.div_one, Nat.mul_one]
theorem sd_le (x n k : Nat) : sd x n k ≤ x := Nat.div_mul_le_self _ _
theorem sd_next {x n k : Nat} (h : k < n) : sd x n (k + 1) = sd x n k + (if x.testBit (n - 1 - k) then 2 ^ (n - 1 - k) else 0) := by
  unfold sd
  obtain ⟨m, hm⟩ : ∃ m, n - 1 - k = m := ⟨_, rfl⟩
  rw [show n - k = m + 1 by omega, show n - (k + 1) = m by omega, hm, Nat.testBit_eq_decide_div_mod_eq, Nat.pow_succ, ← Nat.div_div_eq_div_mul]
  generalize x / 2 ^ m = q
  generalize 2 ^ m = P
  rw [← Nat.mul_assoc, Nat.mul_right_comm]
  have h1 := Nat.div_add_mod q 2
  rcases Nat.mod_two_eq_zero_or_one q with h2 | h2
  · rw [h2]
    simp
    rw [show q / 2 * 2 = q by omega]
  · rw [h2]
    simp
    have : q / 2 * 2 + 1 = q := by omega
    rw [← this, Nat.add_mul, Nat.one_mul, this]

end Go.Proofs.Ytfngcoijbnhheaa
