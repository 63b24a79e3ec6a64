/-
  Sums of rows, plain: closed, as many as 2 to some power, their duals, and how many duals have how many bits (MacWilliams). Nothing here speaks of the program.
-/
import Derived.Test.YtabjliijojidmaaXo
namespace Go.Proofs.Ytabjliijojidmaa
set_option linter.unusedVariables false

/-- The sum of those of the first k rows of which p holds. -/
def sP (g : List Nat) (p : Nat → Bool) : Nat → Nat
  | 0 => 0
  | k + 1 => if p k then sP g p k ^^^ g.getD k 0 else sP g p k

/-- The sum of the rows that are set. -/
def sm (g : List Nat) (s : Nat) : Nat := sP g (fun i => s.testBit i) g.length

theorem sP_congr {g : List Nat} {p q : Nat → Bool} : ∀ k, (∀ i, i < k → p i = q i) → sP g p k = sP g q k
  | 0, _ => rfl
  | k + 1, h => by
    have ih := sP_congr (g := g) k (fun i hi => h i (by omega))
    show (if p k then sP g p k ^^^ g.getD k 0 else sP g p k) = (if q k then sP g q k ^^^ g.getD k 0 else sP g q k)
    rw [ih, h k (by omega)]

theorem sP_xor (g : List Nat) (p q : Nat → Bool) : ∀ k, sP g (fun i => p i ^^ q i) k = sP g p k ^^^ sP g q k
  | 0 => by simp [sP]
  | k + 1 => by
    have ih := sP_xor g p q k
    show (if (p k ^^ q k) then sP g (fun i => p i ^^ q i) k ^^^ g.getD k 0 else sP g (fun i => p i ^^ q i) k) = (if p k then sP g p k ^^^ g.getD k 0 else sP g p k) ^^^ (if q k then sP g q k ^^^ g.getD k 0 else sP g q k)
    rw [ih]
    generalize sP g p k = A
    generalize sP g q k = B
    generalize g.getD k 0 = C
    apply Nat.eq_of_testBit_eq
    intro i
    cases p k <;> cases q k <;> simp [Nat.testBit_xor] <;> cases A.testBit i <;> cases B.testBit i <;> cases C.testBit i <;> rfl

theorem sP_lt {g : List Nat} {n : Nat} (h : ∀ x ∈ g, x < 2 ^ n) (p : Nat → Bool) : ∀ k, k ≤ g.length → sP g p k < 2 ^ n
  | 0, _ => Nat.two_pow_pos n
  | k + 1, hk => by
    have ih := sP_lt h p k (by omega)
    show (if p k then sP g p k ^^^ g.getD k 0 else sP g p k) < 2 ^ n
    split
    · refine Nat.xor_lt_two_pow ih ?_
      rw [List.getD_eq_getElem?_getD, List.getElem?_eq_getElem (by omega)]
      exact h _ (List.getElem_mem _)
    · exact ih

theorem sP_none (g : List Nat) (p : Nat → Bool) : ∀ k, (∀ i, i < k → p i = false) → sP g p k = 0
  | 0, _ => rfl
  | k + 1, h => by
    show (if p k then sP g p k ^^^ g.getD k 0 else sP g p k) = 0
    rw [h k (by omega), sP_none g p k (fun i hi => h i (by omega))]
    simp

theorem sP_one (g : List Nat) (j : Nat) : ∀ k, j < k → sP g (fun i => decide (i = j)) k = g.getD j 0
  | 0, h => by omega
  | k + 1, h => by
    show (if decide (k = j) then sP g (fun i => decide (i = j)) k ^^^ g.getD k 0 else sP g (fun i => decide (i = j)) k) = _
    by_cases e : k = j
    · subst e
      rw [sP_none g _ k (fun i hi => decide_eq_false (by omega))]
      simp
    · rw [if_neg (by simpa using e)]
      exact sP_one g j k (by omega)

theorem sm_xor (g : List Nat) (s t : Nat) : sm g (s ^^^ t) = sm g s ^^^ sm g t := by
  unfold sm
  rw [← sP_xor]
  exact sP_congr _ (fun i _ => Nat.testBit_xor _ _ _)
theorem sm_zero (g : List Nat) : sm g 0 = 0 := sP_none g _ _ (fun i _ => Nat.zero_testBit i)
theorem sm_lt {g : List Nat} {n : Nat} (h : ∀ x ∈ g, x < 2 ^ n) (s : Nat) : sm g s < 2 ^ n := sP_lt h _ _ (Nat.le_refl _)

/-- The word whose bits are these of the first k. -/
def setOf (p : Nat → Bool) : Nat → Nat
  | 0 => 0
  | k + 1 => setOf p k + (if p k then 2 ^ k else 0)
theorem setOf_lt (p : Nat → Bool) : ∀ k, setOf p k < 2 ^ k
  | 0 => Nat.one_pos
  | k + 1 => by
    have ih := setOf_lt p k
    have e : (2 : Nat) ^ (k + 1) = 2 ^ k + 2 ^ k := by rw [Nat.pow_succ]; omega
    show setOf p k + (if p k then 2 ^ k else 0) < _
    split <;> omega
theorem setOf_bit (p : Nat → Bool) : ∀ k i, i < k → (setOf p k).testBit i = p i
  | 0, i, h => by omega
  | k + 1, i, h => by
    have l := setOf_lt p k
    show (setOf p k + (if p k then 2 ^ k else 0)).testBit i = p i
    by_cases e : i = k
    · subst e
      cases hp : p i
      · rw [if_neg (by simp), Nat.add_zero]; exact Nat.testBit_lt_two_pow l
      · rw [if_pos rfl, Nat.add_comm, Nat.testBit_two_pow_add_eq, Nat.testBit_lt_two_pow l]; rfl
    · have ih := setOf_bit p k i (by omega)
      split
      · rw [Nat.add_comm, Nat.testBit_two_pow_add_gt (by omega)]; exact ih
      · exact ih
theorem sP_set (g : List Nat) (p : Nat → Bool) : sP g p g.length = sm g (setOf p g.length) := sP_congr _ (fun i hi => (setOf_bit p _ i hi).symm)

/-- A word is a sum of rows. -/
def inb (g : List Nat) (w : Nat) : Bool := (List.range (2 ^ g.length)).any (fun s => sm g s == w)
theorem inb_iff {g : List Nat} {w : Nat} : inb g w = true ↔ ∃ s, s < 2 ^ g.length ∧ sm g s = w := by
  unfold inb
  rw [List.any_eq_true]
  constructor
  · rintro ⟨s, hs, e⟩; exact ⟨s, List.mem_range.1 hs, by simpa using e⟩
  · rintro ⟨s, hs, e⟩; exact ⟨s, List.mem_range.2 hs, by simpa using e⟩
theorem inb_zero (g : List Nat) : inb g 0 = true := inb_iff.2 ⟨0, Nat.two_pow_pos _, sm_zero g⟩
theorem inb_xor {g : List Nat} {u v : Nat} (hu : inb g u = true) (hv : inb g v = true) : inb g (u ^^^ v) = true := by
  obtain ⟨s, hs, rfl⟩ := inb_iff.1 hu
  obtain ⟨t, ht, rfl⟩ := inb_iff.1 hv
  exact inb_iff.2 ⟨s ^^^ t, Nat.xor_lt_two_pow hs ht, sm_xor g s t⟩
theorem inb_sP (g : List Nat) (p : Nat → Bool) : inb g (sP g p g.length) = true := inb_iff.2 ⟨_, setOf_lt p _, (sP_set g p).symm⟩
theorem inb_row {g : List Nat} {x : Nat} (h : x ∈ g) : inb g x = true := by
  obtain ⟨i, hi, rfl⟩ := List.mem_iff_getElem.1 h
  have := inb_sP g (fun j => decide (j = i))
  rw [sP_one g i _ hi, List.getD_eq_getElem?_getD, List.getElem?_eq_getElem hi] at this
  exact this
theorem inb_lt {g : List Nat} {n w : Nat} (h : ∀ x ∈ g, x < 2 ^ n) (hw : inb g w = true) : w < 2 ^ n := by
  obtain ⟨s, _, rfl⟩ := inb_iff.1 hw
  exact sm_lt h s

/-- All sums, rising. -/
def spn (n : Nat) (g : List Nat) : List Nat := (List.range (2 ^ n)).filter (inb g)
theorem spn_mem {n : Nat} {g : List Nat} (h : ∀ x ∈ g, x < 2 ^ n) {w : Nat} : w ∈ spn n g ↔ inb g w = true := by
  unfold spn
  rw [List.mem_filter, List.mem_range]
  exact ⟨fun h => h.2, fun hw => ⟨inb_lt h hw, hw⟩⟩

/-- Rising lists with the same words are the same. -/
theorem rise_eq : ∀ {l m : List Nat}, l.Pairwise (· < ·) → m.Pairwise (· < ·) → (∀ x, x ∈ l ↔ x ∈ m) → l = m
  | [], [], _, _, _ => rfl
  | [], y :: m, _, _, h => by have := (h y).2 (by simp); cases this
  | x :: l, [], _, _, h => by have := (h x).1 (by simp); cases this
  | x :: l, y :: m, hl, hm, h => by
    rw [List.pairwise_cons] at hl hm
    have e : x = y := by
      have h1 := (h x).1 (by simp)
      have h2 := (h y).2 (by simp)
      rcases List.mem_cons.1 h1 with e | h1
      · exact e
      · rcases List.mem_cons.1 h2 with e | h2
        · exact e.symm
        · have := hl.1 y h2; have := hm.1 x h1; omega
    subst e
    have ih := rise_eq hl.2 hm.2 (fun z => by
      constructor
      · intro hz
        have := hl.1 z hz
        rcases List.mem_cons.1 ((h z).1 (List.mem_cons_of_mem _ hz)) with e | h'
        · omega
        · exact h'
      · intro hz
        have := hm.1 z hz
        rcases List.mem_cons.1 ((h z).2 (List.mem_cons_of_mem _ hz)) with e | h'
        · omega
        · exact h')
    rw [ih]
theorem rise_range (N : Nat) : (List.range N).Pairwise (· < ·) := List.pairwise_lt_range
theorem spn_rise (n : Nat) (g : List Nat) : (spn n g).Pairwise (· < ·) := List.Pairwise.filter _ (rise_range _)
theorem rise_nodup {l : List Nat} (h : l.Pairwise (· < ·)) : l.Nodup := List.Pairwise.imp (fun h => Nat.ne_of_lt h) h

/-- Words of n bits, of which the sum of two is one. -/
structure Lin (n : Nat) (S : List Nat) : Prop where
  once : S.Nodup
  zero : 0 ∈ S
  sum : ∀ u ∈ S, ∀ v ∈ S, u ^^^ v ∈ S
  low : ∀ u ∈ S, u < 2 ^ n

theorem spn_lin {n : Nat} {g : List Nat} (h : ∀ x ∈ g, x < 2 ^ n) : Lin n (spn n g) :=
  ⟨rise_nodup (spn_rise n g), (spn_mem h).2 (inb_zero g), fun u hu v hv => (spn_mem h).2 (inb_xor ((spn_mem h).1 hu) ((spn_mem h).1 hv)), fun u hu => inb_lt h ((spn_mem h).1 hu)⟩

theorem all_lin (n : Nat) : Lin n (List.range (2 ^ n)) :=
  ⟨List.nodup_range, List.mem_range.2 (Nat.two_pow_pos n), fun u hu v hv => List.mem_range.2 (Nat.xor_lt_two_pow (List.mem_range.1 hu) (List.mem_range.1 hv)), fun u hu => List.mem_range.1 hu⟩

/-! ### Signs -/

/-- Two words have an odd number of bits in common. -/
def odd (u w : Nat) : Bool := pop (u &&& w) % 2 == 1

theorem popN_add (a b : Nat) : ∀ m, popN m a + popN m b = popN m (a ^^^ b) + 2 * popN m (a &&& b)
  | 0 => rfl
  | m + 1 => by
    have h := popN_add a b m
    show popN m a + (if a.testBit m then 1 else 0) + (popN m b + (if b.testBit m then 1 else 0)) = popN m (a ^^^ b) + (if (a ^^^ b).testBit m then 1 else 0) + 2 * (popN m (a &&& b) + (if (a &&& b).testBit m then 1 else 0))
    rw [Nat.testBit_xor, Nat.testBit_and]
    cases a.testBit m <;> cases b.testBit m <;> simp <;> omega

theorem odd_comm (u w : Nat) : odd u w = odd w u := by unfold odd; rw [Nat.and_comm]
theorem odd_xor (u v w : Nat) : odd (u ^^^ v) w = (odd u w ^^ odd v w) := by
  have e : (u ^^^ v) &&& w = (u &&& w) ^^^ (v &&& w) := by
    apply Nat.eq_of_testBit_eq; intro i
    simp only [Nat.testBit_xor, Nat.testBit_and]
    cases u.testBit i <;> cases v.testBit i <;> cases w.testBit i <;> rfl
  have h := popN_add (u &&& w) (v &&& w) 32
  unfold odd pop
  rw [e]
  generalize popN 32 (u &&& w) = A at *
  generalize popN 32 (v &&& w) = B at *
  generalize popN 32 ((u &&& w) ^^^ (v &&& w)) = C at *
  generalize popN 32 ((u &&& w) &&& (v &&& w)) = D at *
  have h1 : C % 2 = (A + B) % 2 := by omega
  rcases Nat.mod_two_eq_zero_or_one A with a | a <;> rcases Nat.mod_two_eq_zero_or_one B with b | b
  all_goals
    have : C % 2 = (A % 2 + B % 2) % 2 := by omega
    rw [this, a, b]; rfl
theorem pop_z : pop 0 = 0 := by decide
theorem odd_zero (w : Nat) : odd 0 w = false := by unfold odd; rw [Nat.zero_and, pop_z]; rfl

def sg (u w : Nat) : Int := if odd u w then -1 else 1
theorem sg_xor (u v w : Nat) : sg (u ^^^ v) w = sg u w * sg v w := by
  unfold sg; rw [odd_xor]; cases odd u w <;> cases odd v w <;> rfl
theorem sg_comm (u w : Nat) : sg u w = sg w u := by unfold sg; rw [odd_comm]

/-- The sum of what f makes of all. -/
def su (l : List Nat) (f : Nat → Int) : Int := (l.map f).sum
theorem su_nil (f : Nat → Int) : su [] f = 0 := rfl
theorem su_cons (a : Nat) (l : List Nat) (f : Nat → Int) : su (a :: l) f = f a + su l f := by unfold su; simp
theorem su_congr {l : List Nat} {f g : Nat → Int} (h : ∀ x ∈ l, f x = g x) : su l f = su l g := by unfold su; rw [List.map_congr_left h]
theorem su_zero (l : List Nat) : su l (fun _ => 0) = 0 := by
  induction l with
  | nil => rfl
  | cons a l ih => rw [su_cons, ih]; rfl
theorem su_add (l : List Nat) (f g : Nat → Int) : su l (fun x => f x + g x) = su l f + su l g := by
  induction l with
  | nil => rfl
  | cons a l ih => simp only [su_cons, ih]; omega
theorem su_mul (l : List Nat) (c : Int) (f : Nat → Int) : su l (fun x => c * f x) = c * su l f := by
  induction l with
  | nil => simp [su_nil]
  | cons a l ih => simp only [su_cons, ih]; rw [Int.mul_add]
theorem su_const (l : List Nat) (c : Int) : su l (fun _ => c) = l.length * c := by
  induction l with
  | nil => simp [su_nil]
  | cons a l ih => rw [su_cons, ih, List.length_cons]; rw [Int.natCast_add, Int.add_mul]; omega
theorem su_swap (l m : List Nat) (f : Nat → Nat → Int) : su l (fun a => su m (fun b => f a b)) = su m (fun b => su l (fun a => f a b)) := by
  induction l with
  | nil => rw [su_nil]; simp only [su_nil]; rw [su_zero]
  | cons a l ih => simp only [su_cons, ih]; rw [su_add]
theorem su_perm {l m : List Nat} (h : l.Perm m) (f : Nat → Int) : su l f = su m f := by
  induction h with
  | nil => rfl
  | cons a _ ih => rw [su_cons, su_cons, ih]
  | swap a b l => simp only [su_cons]; omega
  | trans _ _ h1 h2 => rw [h1, h2]
theorem su_map (l : List Nat) (g : Nat → Nat) (f : Nat → Int) : su (l.map g) f = su l (fun x => f (g x)) := by unfold su; rw [List.map_map]; rfl
theorem su_filter (l : List Nat) (p : Nat → Bool) (f : Nat → Int) : su (l.filter p) f = su l (fun x => if p x then f x else 0) := by
  induction l with
  | nil => rfl
  | cons a l ih =>
    rw [List.filter_cons]
    cases h : p a
    · rw [su_cons, if_neg (by simp), ih, h]; simp
    · rw [if_pos rfl, su_cons, su_cons, ih, h]; simp
theorem su_one {l : List Nat} (hn : l.Nodup) {z : Nat} (hz : z ∈ l) (c : Int) : su l (fun x => if x = z then c else 0) = c := by
  induction l with
  | nil => cases hz
  | cons a l ih =>
    rw [List.nodup_cons] at hn
    rw [su_cons]
    by_cases e : a = z
    · subst e
      rw [if_pos rfl, su_congr (g := fun _ => 0) (fun x hx => if_neg (fun e' => hn.1 (by rw [← e']; exact hx))), su_zero]; omega
    · rw [if_neg e, ih hn.2 (by rcases List.mem_cons.1 hz with h | h; exact absurd h.symm e; exact h)]; omega

theorem xor_inj {v x y : Nat} (h : v ^^^ x = v ^^^ y) : x = y := by
  have := congrArg (fun z => v ^^^ z) h
  simpa [← Nat.xor_assoc] using this

theorem Lin.turn {n : Nat} {S : List Nat} (L : Lin n S) {v : Nat} (hv : v ∈ S) : (S.map (fun x => v ^^^ x)).Perm S := by
  have nd : (S.map (fun x => v ^^^ x)).Nodup := by
    rw [List.Nodup, List.pairwise_map]
    exact List.Pairwise.imp (fun h e => h (xor_inj e)) L.once
  refine (List.perm_ext_iff_of_nodup nd L.once).2 fun x => ?_
  rw [List.mem_map]
  constructor
  · rintro ⟨y, hy, rfl⟩; exact L.sum v hv y hy
  · intro hx
    refine ⟨v ^^^ x, L.sum v hv x hx, ?_⟩
    rw [← Nat.xor_assoc, Nat.xor_self, Nat.zero_xor]

/-- w has an even number of bits in common with each. -/
def evn (S : List Nat) (w : Nat) : Bool := S.all (fun u => !odd u w)
theorem evn_iff {S : List Nat} {w : Nat} : evn S w = true ↔ ∀ u ∈ S, odd u w = false := by
  unfold evn
  rw [List.all_eq_true]
  exact ⟨fun h u hu => by have := h u hu; simpa using this, fun h u hu => by simp [h u hu]⟩

/-- The signs add up to nothing, or to all. -/
theorem Lin.signs {n : Nat} {S : List Nat} (L : Lin n S) (w : Nat) : su S (fun u => sg u w) = if evn S w then (S.length : Int) else 0 := by
  by_cases h : evn S w = true
  · rw [if_pos h, su_congr (g := fun _ => 1) (fun u hu => by unfold sg; rw [evn_iff.1 h u hu]; rfl), su_const]; omega
  · rw [if_neg h]
    obtain ⟨v, hv, ho⟩ : ∃ v ∈ S, odd v w = true := by
      apply Classical.byContradiction
      intro hc
      exact h (evn_iff.2 (fun u hu => by
        cases ho : odd u w
        · rfl
        · exact absurd ⟨u, hu, ho⟩ hc))
    have e := su_perm (L.turn hv) (fun u => sg u w)
    rw [su_map, su_congr (g := fun u => (-1) * sg u w) (fun u _ => by rw [sg_xor]; unfold sg; rw [ho]; rfl), su_mul] at e
    omega

theorem odd_bit {u : Nat} {n : Nat} (hn : n ≤ 32) (hu : u < 2 ^ n) (h : u ≠ 0) : ∃ w, w < 2 ^ n ∧ odd u w = true := by
  obtain ⟨i, hi⟩ : ∃ i, u.testBit i = true := by
    apply Classical.byContradiction
    intro hc
    apply h
    apply Nat.eq_of_testBit_eq
    intro i
    rw [Nat.zero_testBit]
    cases hb : u.testBit i
    · rfl
    · exact absurd ⟨i, hb⟩ hc
  have hin : i < n := by
    rcases Nat.lt_or_ge i n with l | l
    · exact l
    · rw [Nat.testBit_lt_two_pow (Nat.lt_of_lt_of_le hu (Nat.pow_le_pow_right (by omega) l))] at hi; cases hi
  refine ⟨2 ^ i, Nat.pow_lt_pow_right (by omega) hin, ?_⟩
  have e : u &&& 2 ^ i = 2 ^ i := by
    apply Nat.eq_of_testBit_eq; intro j
    rw [Nat.testBit_and, Nat.testBit_two_pow]
    by_cases e : i = j
    · subst e; rw [hi]; simp
    · simp [e]
  unfold odd
  rw [e]
  have := pop_top (n := i) (b := 0) (by omega) (Nat.two_pow_pos i)
  rw [Nat.add_zero] at this
  rw [this, pop_z]; rfl

theorem all_signs {n : Nat} (hn : n ≤ 32) {u : Nat} (hu : u < 2 ^ n) : su (List.range (2 ^ n)) (fun w => sg u w) = if u = 0 then ((2 ^ n : Nat) : Int) else 0 := by
  rw [su_congr (g := fun w => sg w u) (fun w _ => sg_comm u w), (all_lin n).signs u, List.length_range]
  by_cases h : u = 0
  · subst h
    rw [if_pos rfl, if_pos]
    exact evn_iff.2 (fun w _ => by rw [odd_comm]; exact odd_zero w)
  · rw [if_neg h, if_neg]
    intro hc
    obtain ⟨w, hw, ho⟩ := odd_bit hn hu h
    have := evn_iff.1 hc w (List.mem_range.2 hw)
    rw [odd_comm, ho] at this
    cases this

/-- The words that have an even number of bits in common with each. -/
def dl (n : Nat) (S : List Nat) : List Nat := (List.range (2 ^ n)).filter (evn S)
theorem dl_mem {n : Nat} {S : List Nat} {w : Nat} : w ∈ dl n S ↔ w < 2 ^ n ∧ evn S w = true := by
  unfold dl; rw [List.mem_filter, List.mem_range]
theorem dl_lin (n : Nat) (S : List Nat) : Lin n (dl n S) := by
  refine ⟨List.Pairwise.filter _ List.nodup_range, dl_mem.2 ⟨Nat.two_pow_pos n, evn_iff.2 (fun u _ => by rw [odd_comm]; exact odd_zero u)⟩, fun u hu v hv => ?_, fun u hu => (dl_mem.1 hu).1⟩
  obtain ⟨h1, h2⟩ := dl_mem.1 hu
  obtain ⟨k1, k2⟩ := dl_mem.1 hv
  refine dl_mem.2 ⟨Nat.xor_lt_two_pow h1 k1, evn_iff.2 (fun x hx => ?_)⟩
  rw [odd_comm, odd_xor, odd_comm u, odd_comm v, evn_iff.1 h2 x hx, evn_iff.1 k2 x hx]; rfl

theorem su_dl (n : Nat) (S : List Nat) (f : Nat → Int) : su (dl n S) f = su (List.range (2 ^ n)) (fun w => if evn S w then f w else 0) := su_filter _ _ _

/-- Sums and duals together take all bits. -/
theorem Lin.dual_many {n : Nat} {S : List Nat} (L : Lin n S) (hn : n ≤ 32) : S.length * (dl n S).length = 2 ^ n := by
  have h := su_swap S (List.range (2 ^ n)) (fun u w => sg u w)
  rw [su_congr (g := fun u => if u = 0 then ((2 ^ n : Nat) : Int) else 0) (fun u hu => all_signs hn (L.low u hu)), su_one L.once L.zero] at h
  rw [su_congr (g := fun w => (S.length : Int) * (if evn S w then 1 else 0)) (fun w _ => by rw [L.signs w]; split <;> simp), su_mul] at h
  have h2 := su_dl n S (fun _ => 1)
  rw [su_const] at h2
  rw [← h2] at h
  have h3 : ((2 ^ n : Nat) : Int) = ((S.length * (dl n S).length : Nat) : Int) := by rw [h, Int.natCast_mul]; simp
  omega

theorem Lin.dual_back {n : Nat} {S : List Nat} (L : Lin n S) (hn : n ≤ 32) {w : Nat} (hw : w < 2 ^ n) : evn (dl n S) w = true ↔ w ∈ S := by
  have h1 := L.dual_many hn
  have h2 := (dl_lin n S).dual_many hn
  have sub : ∀ u ∈ S, u ∈ dl n (dl n S) := fun u hu => dl_mem.2 ⟨L.low u hu, evn_iff.2 (fun v hv => by rw [odd_comm]; exact evn_iff.1 (dl_mem.1 hv).2 u hu)⟩
  have hp : 0 < (dl n S).length := List.length_pos_of_mem (dl_lin n S).zero
  have e : S.length = (dl n (dl n S)).length := by
    have : (dl n S).length * S.length = (dl n S).length * (dl n (dl n S)).length := by rw [h2, Nat.mul_comm, h1]
    exact Nat.eq_of_mul_eq_mul_left hp this
  constructor
  · intro h
    apply Classical.byContradiction
    intro hc
    have nd : (w :: S).Nodup := List.nodup_cons.2 ⟨hc, L.once⟩
    have := nd.length_le_of_subset (l₂ := dl n (dl n S)) (fun x hx => by
      rcases List.mem_cons.1 hx with rfl | hx
      · exact dl_mem.2 ⟨hw, h⟩
      · exact sub x hx)
    simp at this
    omega
  · intro h
    exact (dl_mem.1 (sub w h)).2

theorem two_part : ∀ n a b, a * b = 2 ^ n → ∃ k, k ≤ n ∧ a = 2 ^ k
  | 0, a, b, h => ⟨0, Nat.le_refl _, by have := Nat.eq_one_of_mul_eq_one_right (by simpa using h); simpa using this⟩
  | n + 1, a, b, h => by
    have e : (2 : Nat) ^ (n + 1) = 2 * 2 ^ n := by rw [Nat.pow_succ]; omega
    rcases Nat.mod_two_eq_zero_or_one a with ha | ha
    · obtain ⟨c, rfl⟩ : ∃ c, a = 2 * c := ⟨a / 2, by omega⟩
      obtain ⟨k, hk, rfl⟩ := two_part n c b (by rw [e, Nat.mul_assoc] at h; omega)
      exact ⟨k + 1, by omega, by rw [Nat.pow_succ]; omega⟩
    · have hb : b % 2 = 0 := by
        have := Nat.mul_mod a b 2
        rw [h, e, ha] at this
        omega
      obtain ⟨c, rfl⟩ : ∃ c, b = 2 * c := ⟨b / 2, by omega⟩
      obtain ⟨k, hk, rfl⟩ := two_part n a c (by rw [e, Nat.mul_left_comm] at h; omega)
      exact ⟨k, by omega, rfl⟩

theorem Lin.two {n : Nat} {S : List Nat} (L : Lin n S) (hn : n ≤ 32) : ∃ k, k ≤ n ∧ S.length = 2 ^ k := two_part n _ _ (L.dual_many hn)

/-- Even with each row is even with each sum. -/
theorem evn_rows {n : Nat} {g : List Nat} (h : ∀ x ∈ g, x < 2 ^ n) (w : Nat) : evn g w = evn (spn n g) w := by
  have key : (∀ u ∈ g, odd u w = false) → ∀ p k, k ≤ g.length → odd (sP g p k) w = false := by
    intro hg p k
    induction k with
    | zero => intro _; exact odd_zero w
    | succ k ih =>
      intro hk
      have e := ih (by omega)
      show odd (if p k then sP g p k ^^^ g.getD k 0 else sP g p k) w = false
      split
      · rw [odd_xor, e, List.getD_eq_getElem?_getD, List.getElem?_eq_getElem (by omega)]
        show (false ^^ odd g[k] w) = false
        rw [hg _ (List.getElem_mem _)]; rfl
      · exact e
  rw [Bool.eq_iff_iff, evn_iff, evn_iff]
  constructor
  · intro hg u hu
    obtain ⟨s, _, rfl⟩ := inb_iff.1 ((spn_mem h).1 hu)
    exact key hg _ _ (Nat.le_refl _)
  · intro hs u hu
    exact hs u ((spn_mem h).2 (inb_row hu))
theorem dl_rows {n : Nat} {g : List Nat} (h : ∀ x ∈ g, x < 2 ^ n) : dl n g = dl n (spn n g) := by
  unfold dl
  rw [List.filter_congr (fun w _ => evn_rows h w)]

/-! ### MacWilliams -/

/-- Signs of the words below m that have k bits, against c. -/
def kw (c k m : Nat) : Int := su (List.range m) (fun w => if pop w = k then sg c w else 0)

/-- One bit more that they have in common; one that they haven't. -/
def pl (f : Nat → Int) (k : Nat) : Int := f k + (if k = 0 then 0 else f (k - 1))
def mi (f : Nat → Int) (k : Nat) : Int := f k - (if k = 0 then 0 else f (k - 1))
theorem pl_mi (f : Nat → Int) : pl (mi f) = mi (pl f) := by
  funext k
  unfold pl mi
  by_cases h : k = 0
  · subst h; simp
  · simp only [if_neg h]
    by_cases h1 : k - 1 = 0
    · simp only [if_pos h1]; omega
    · simp only [if_neg h1]; omega
def st0 (k : Nat) : Int := if k = 0 then 1 else 0
def nm : Nat → (Nat → Int)
  | 0 => st0
  | n + 1 => pl (nm n)
def km (j n : Nat) : Nat → Int := match j with
  | 0 => nm n
  | j + 1 => mi (km j n)
theorem pl_km : ∀ j n, pl (km j n) = km j (n + 1)
  | 0, _ => rfl
  | j + 1, n => by
    show pl (mi (km j n)) = mi (km j (n + 1))
    rw [pl_mi, pl_km j n]

theorem su_app (l m : List Nat) (f : Nat → Int) : su (l ++ m) f = su l f + su m f := by
  induction l with
  | nil => rw [List.nil_append, su_nil]; omega
  | cons a l ih => rw [List.cons_append, su_cons, su_cons, ih]; omega
theorem range_two (n : Nat) : List.range (2 ^ (n + 1)) = List.range (2 ^ n) ++ (List.range (2 ^ n)).map (fun x => 2 ^ n + x) := by
  rw [show (2 : Nat) ^ (n + 1) = 2 ^ n + 2 ^ n by rw [Nat.pow_succ]; omega, List.range_add]

theorem popN_and_top {c n x : Nat} (hx : x < 2 ^ n) : popN (n + 1) (c &&& (2 ^ n + x)) = popN n (c &&& x) + (if c.testBit n then 1 else 0) := by
  show popN n (c &&& (2 ^ n + x)) + (if (c &&& (2 ^ n + x)).testBit n then 1 else 0) = _
  rw [Nat.testBit_and, Nat.testBit_two_pow_add_eq, Nat.testBit_lt_two_pow hx]
  rw [popN_congr (a := c &&& (2 ^ n + x)) (b := c &&& x) n (fun i hi => by rw [Nat.testBit_and, Nat.testBit_and, Nat.testBit_two_pow_add_gt hi])]
  simp

theorem and_lt {c n x : Nat} (hx : x < 2 ^ n) : c &&& x < 2 ^ n := Nat.and_lt_two_pow c hx

theorem sg_top {c n x : Nat} (hn : n < 32) (hx : x < 2 ^ n) : sg c (2 ^ n + x) = (if c.testBit n then -1 else 1) * sg c x := by
  have hlt : 2 ^ n + x < 2 ^ (n + 1) := by rw [Nat.pow_succ]; omega
  have e : pop (c &&& (2 ^ n + x)) = pop (c &&& x) + (if c.testBit n then 1 else 0) := by
    rw [pop_of_lt (and_lt hlt) (by omega), popN_and_top hx, pop_of_lt (and_lt hx) (by omega)]
  unfold sg odd
  rw [e]
  generalize pop (c &&& x) = A
  rcases Nat.mod_two_eq_zero_or_one A with a | a
  · cases c.testBit n
    · simp [a]
    · have : (A + 1) % 2 = 1 := by omega
      simp [a, this]
  · cases c.testBit n
    · simp [a]
    · have : (A + 1) % 2 = 0 := by omega
      simp [a, this]

theorem kw_next {c k n : Nat} (hn : n < 32) : kw c k (2 ^ (n + 1)) = kw c k (2 ^ n) + (if c.testBit n then -1 else 1) * (if k = 0 then 0 else kw c (k - 1) (2 ^ n)) := by
  have key : ∀ x ∈ List.range (2 ^ n), (if pop (2 ^ n + x) = k then sg c (2 ^ n + x) else 0) = (if c.testBit n = true then (-1 : Int) else 1) * (if k = 0 then 0 else if pop x = k - 1 then sg c x else 0) := by
    intro x hx
    have hx' := List.mem_range.1 hx
    rw [pop_top hn hx', sg_top hn hx']
    by_cases h : k = 0
    · rw [if_pos h, if_neg (by omega)]; simp
    · rw [if_neg h]
      by_cases h1 : pop x = k - 1
      · rw [if_pos h1, if_pos (by omega)]
      · rw [if_neg h1, if_neg (by omega)]; simp
  unfold kw
  rw [range_two, su_app, su_map, su_congr key, su_mul]
  congr 2
  by_cases h : k = 0
  · simp only [if_pos h]; exact su_zero _
  · simp only [if_neg h]

theorem kw_one (c k : Nat) : kw c k (2 ^ 0) = st0 k := by
  unfold kw
  show su [0] _ = _
  rw [su_cons, su_nil, pop_z]
  have e : sg c 0 = 1 := by rw [sg_comm]; unfold sg; rw [odd_zero]; rfl
  rw [e]
  unfold st0
  by_cases h : k = 0
  · subst h; simp
  · rw [if_neg (by omega), if_neg h]; omega

/-- It hangs on how many bits c has alone. -/
theorem kw_pop {n : Nat} : ∀ (c : Nat), n ≤ 32 → (fun k => kw c k (2 ^ n)) = km (popN n c) (n - popN n c) := by
  induction n with
  | zero => intro c _; funext k; exact kw_one c k
  | succ n ih =>
    intro c hn
    have h := ih c (by omega)
    have hle := popN_le n c
    have hs : popN (n + 1) c = popN n c + (if c.testBit n then 1 else 0) := rfl
    rw [hs]
    cases hb : c.testBit n
    · have e : (fun k => kw c k (2 ^ (n + 1))) = pl (fun k => kw c k (2 ^ n)) := by
        funext k
        rw [kw_next (by omega), hb]
        unfold pl
        simp
      rw [e, h, pl_km, if_neg (by simp)]
      simp only [Nat.add_zero]
      rw [show n + 1 - popN n c = n - popN n c + 1 by omega]
    · have e : (fun k => kw c k (2 ^ (n + 1))) = mi (fun k => kw c k (2 ^ n)) := by
        funext k
        rw [kw_next (by omega), hb]
        unfold mi
        by_cases h0 : k = 0
        · simp only [if_pos h0]; simp
        · simp only [if_neg h0]; simp; omega
      rw [e, h, if_pos rfl, show n + 1 - (popN n c + 1) = n - popN n c by omega]
      rfl

theorem kw_eq {n c d k : Nat} (hn : n ≤ 32) (h : popN n c = popN n d) : kw c k (2 ^ n) = kw d k (2 ^ n) := by
  have e1 := congrFun (kw_pop (n := n) c hn) k
  have e2 := congrFun (kw_pop (n := n) d hn) k
  rw [h] at e1
  exact e1.trans e2.symm

/-- So many bits, the first ones. -/
theorem popN_low_ones (j : Nat) : ∀ m, popN m (2 ^ j - 1) = min m j
  | 0 => by simp [popN]
  | m + 1 => by
    show popN m (2 ^ j - 1) + (if (2 ^ j - 1).testBit m then 1 else 0) = _
    rw [popN_low_ones j m, Nat.testBit_two_pow_sub_one]
    by_cases h : m < j
    · simp [h]; omega
    · simp [h]; omega

/-- Of j, for k of n bits: words with an even number in common with the first j bits, less those with an odd one. -/
def kr (n k j : Nat) : Int := kw (2 ^ j - 1) k (2 ^ n)
theorem kr_of {n k u : Nat} (hn : n ≤ 32) (hu : u < 2 ^ n) : kr n k (pop u) = kw u k (2 ^ n) := by
  have h1 : pop u ≤ n := pop_le hu hn
  refine kw_eq hn ?_
  rw [popN_low_ones, ← pop_of_lt hu hn]
  omega

/-- How many words have k bits. -/
def wt (S : List Nat) (k : Nat) : Nat := (S.filter (fun u => decide (pop u = k))).length
theorem wt_nil (k : Nat) : wt [] k = 0 := rfl
theorem wt_cons (a : Nat) (S : List Nat) (k : Nat) : wt (a :: S) k = (if pop a = k then 1 else 0) + wt S k := by
  unfold wt
  rw [List.filter_cons]
  by_cases h : pop a = k
  · simp [h]; omega
  · simp [h]

theorem su_range_one {N a : Nat} (ha : a < N) (F : Nat → Int) : su (List.range N) (fun j => if a = j then F j else 0) = F a := by
  rw [su_congr (g := fun j => if j = a then F a else 0) (fun j _ => by
    by_cases h : a = j
    · rw [if_pos h, if_pos h.symm, h]
    · rw [if_neg h, if_neg (fun e => h e.symm)])]
  exact su_one List.nodup_range (List.mem_range.2 ha) _

theorem su_wt {n : Nat} (F : Nat → Int) : ∀ {S : List Nat}, (∀ u ∈ S, pop u ≤ n) → su (List.range (n + 1)) (fun j => (wt S j : Nat) * F j) = su S (fun u => F (pop u))
  | [], _ => by rw [su_nil, su_congr (g := fun _ => 0) (fun j _ => by rw [wt_nil]; simp), su_zero]
  | a :: S, h => by
    have ih := su_wt (n := n) F (S := S) (fun u hu => h u (List.mem_cons_of_mem _ hu))
    rw [su_cons, ← ih, su_congr (g := fun j => (if pop a = j then F j else 0) + (wt S j : Nat) * F j) (fun j _ => by
      rw [wt_cons]
      by_cases e : pop a = j
      · rw [if_pos e, if_pos e]; rw [Int.natCast_add, Int.add_mul]; simp
      · rw [if_neg e, if_neg e]; simp), su_add, su_range_one (by have := h a (by simp); omega)]

theorem wt_su (S : List Nat) (k : Nat) : (wt S k : Int) = su S (fun u => if pop u = k then 1 else 0) := by
  induction S with
  | nil => rfl
  | cons a S ih => rw [wt_cons, su_cons, ← ih]; split <;> simp

/-- MacWilliams: how many duals have k bits. -/
theorem Lin.macwilliams {n : Nat} {S : List Nat} (L : Lin n S) (hn : n ≤ 32) (k : Nat) :
    su (List.range (n + 1)) (fun j => (wt S j : Nat) * kr n k j) = (S.length : Int) * (wt (dl n S) k : Nat) := by
  rw [su_wt (kr n k) (fun u hu => pop_le (L.low u hu) hn), su_congr (g := fun u => su (List.range (2 ^ n)) (fun w => if pop w = k then sg u w else 0)) (fun u hu => kr_of hn (L.low u hu)), su_swap]
  rw [wt_su, su_dl, ← su_mul]
  refine su_congr (fun w _ => ?_)
  by_cases h : pop w = k
  · simp only [if_pos h]
    rw [L.signs w]
    split <;> simp
  · simp only [if_neg h, su_zero]
    simp

theorem wt_all {n : Nat} : ∀ {S : List Nat}, (∀ u ∈ S, pop u ≤ n) → su (List.range (n + 1)) (fun j => (wt S j : Nat)) = S.length := fun {S} h => by
  have := su_wt (n := n) (fun _ => 1) h
  simp only [Int.mul_one] at this
  rw [this, su_const]; simp

end Go.Proofs.Ytabjliijojidmaa
