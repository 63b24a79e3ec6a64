/-
  Plain mathematics: of lengths, the shortest first, of several the first one: the words that follow one another without a gap are the first ones that no word so far begins, and none of them begins another one.
-/
import Derived.Test.YtfelbgilhhmbnaaFree
namespace Go.Proofs.Ytfelbgilhhmbnaa

/-- The digits of a number, the greatest first. -/
def dg (x m : Nat) : List Bool := (List.range m).map (fun i => x.testBit (m - 1 - i))

theorem dg_length (x m : Nat) : (dg x m).length = m := by simp [dg]
theorem dg_get (x m i : Nat) (h : i < (dg x m).length) : (dg x m)[i] = x.testBit (m - 1 - i) := by simp [dg]

theorem dg_inj {x y m : Nat} (hx : x < 2 ^ m) (hy : y < 2 ^ m) (h : dg x m = dg y m) : x = y := by
  apply Nat.eq_of_testBit_eq
  intro i
  by_cases hi : i < m
  · have h1 := dg_get x m (m - 1 - i) (by rw [dg_length]; omega)
    have h2 := dg_get y m (m - 1 - i) (by rw [dg_length]; omega)
    have e : m - 1 - (m - 1 - i) = i := by omega
    rw [e] at h1 h2
    rw [← h1, ← h2]
    simp only [h]
  · have hm : 2 ^ m ≤ 2 ^ i := Nat.pow_le_pow_right (by omega) (by omega)
    rw [Nat.testBit_lt_two_pow (by omega), Nat.testBit_lt_two_pow (by omega)]

theorem dg_take (y m s : Nat) (h : m ≤ s) : (dg y s).take m = dg (y / 2 ^ (s - m)) m := by
  apply List.ext_getElem
  · simp [dg_length]; omega
  · intro i h1 h2
    rw [List.getElem_take, dg_get, dg_get, Nat.testBit_div_two_pow]
    congr 1
    rw [dg_length] at h2
    omega

theorem dg_pre {x y m s : Nat} (h : m ≤ s) (hx : x < 2 ^ m) (hy : y < 2 ^ s) : (dg x m).isPrefixOf (dg y s) = true ↔ x = y / 2 ^ (s - m) := by
  rw [List.isPrefixOf_iff_prefix, List.prefix_iff_eq_take, dg_length, dg_take y m s h]
  have hd : y / 2 ^ (s - m) < 2 ^ m := by
    rw [Nat.div_lt_iff_lt_mul (Nat.pow_pos (by omega)), ← Nat.pow_add, show m + (s - m) = s by omega]
    exact hy
  exact ⟨fun e => dg_inj hx hd e, fun e => by rw [← e]⟩

/-- Who comes first: the shorter one, and of one length the one ahead. -/
def Lex (m : Nat → Nat) (i j : Nat) : Prop := m i < m j ∨ (m i = m j ∧ i < j)

def grp (m : Nat → Nat) (n s : Nat) : List Nat := (List.range n).filter (fun i => decide (m i = s))
/-- All whose lengths are below s. -/
def upto (m : Nat → Nat) (n s : Nat) : List Nat := (List.range s).flatMap (grp m n)
/-- These, and the first i of length s. -/
def ahead (m : Nat → Nat) (n s i : Nat) : List Nat := upto m n s ++ grp m i s
/-- All, in their order. -/
def ord (m : Nat → Nat) (n : Nat) : List Nat := upto m n 9

theorem grp_succ (m : Nat → Nat) (i s : Nat) : grp m (i + 1) s = grp m i s ++ (if m i = s then [i] else []) := by
  unfold grp
  rw [List.range_succ, List.filter_append]
  congr 1
  by_cases h : m i = s <;> simp [h]
theorem upto_succ (m : Nat → Nat) (n s : Nat) : upto m n (s + 1) = upto m n s ++ grp m n s := by
  unfold upto
  rw [List.range_succ, List.flatMap_append]
  simp
theorem ahead_zero (m : Nat → Nat) (n s : Nat) : ahead m n s 0 = upto m n s := by simp [ahead, grp]
theorem ahead_all (m : Nat → Nat) (n s : Nat) : ahead m n s n = upto m n (s + 1) := by rw [upto_succ]; rfl
theorem ahead_hit {m : Nat → Nat} {n s i : Nat} (h : m i = s) : ahead m n s (i + 1) = ahead m n s i ++ [i] := by
  unfold ahead
  rw [grp_succ, if_pos h, List.append_assoc]
theorem ahead_miss {m : Nat → Nat} {n s i : Nat} (h : m i ≠ s) : ahead m n s (i + 1) = ahead m n s i := by
  unfold ahead
  rw [grp_succ, if_neg h, List.append_nil]

theorem grp_pre (m : Nat → Nat) (s i : Nat) : ∀ d, ∃ r, grp m (i + d) s = grp m i s ++ r
  | 0 => ⟨[], by simp⟩
  | d + 1 => by
    obtain ⟨r, hr⟩ := grp_pre m s i d
    exact ⟨r ++ (if m (i + d) = s then [i + d] else []), by rw [← Nat.add_assoc, grp_succ, hr, List.append_assoc]⟩
theorem upto_pre (m : Nat → Nat) (n s : Nat) : ∀ d, ∃ r, upto m n (s + d) = upto m n s ++ r
  | 0 => ⟨[], by simp⟩
  | d + 1 => by
    obtain ⟨r, hr⟩ := upto_pre m n s d
    exact ⟨r ++ grp m n (s + d), by rw [← Nat.add_assoc, upto_succ, hr, List.append_assoc]⟩

/-- What is ahead of i is a beginning of all, i follows. -/
theorem ord_at {m : Nat → Nat} {n i : Nat} (hi : i < n) (h8 : m i ≤ 8) : ∃ r, ord m n = ahead m n (m i) i ++ i :: r := by
  obtain ⟨r1, h1⟩ := grp_pre m (m i) (i + 1) (n - (i + 1))
  obtain ⟨r2, h2⟩ := upto_pre m n (m i + 1) (9 - (m i + 1))
  rw [show i + 1 + (n - (i + 1)) = n by omega, grp_succ, if_pos rfl] at h1
  rw [show m i + 1 + (9 - (m i + 1)) = 9 by omega, upto_succ m n (m i), h1] at h2
  exact ⟨r1 ++ r2, by unfold ord ahead; rw [h2]; simp⟩

theorem mem_ord {m : Nat → Nat} {n : Nat} (h8 : ∀ i, i < n → m i ≤ 8) (i : Nat) : i ∈ ord m n ↔ i < n := by
  unfold ord upto grp
  simp only [List.mem_flatMap, List.mem_range, List.mem_filter, decide_eq_true_eq]
  constructor
  · rintro ⟨s, _, h, _⟩; exact h
  · intro h; exact ⟨m i, by have := h8 i h; omega, h, rfl⟩

theorem ord_sorted (m : Nat → Nat) (n : Nat) : (ord m n).Pairwise (Lex m) := by
  unfold ord upto
  rw [List.pairwise_flatMap]
  constructor
  · intro s _
    unfold grp
    have h0 : (List.range n).Pairwise (fun a b => a < b) := List.pairwise_lt_range
    rw [List.pairwise_filter]
    refine h0.imp ?_
    intro a b hab ha hb
    simp only [decide_eq_true_eq] at ha hb
    exact .inr ⟨by omega, hab⟩
  · have h0 : (List.range 9).Pairwise (fun a b => a < b) := List.pairwise_lt_range
    refine h0.imp ?_
    intro a b hab x hx y hy
    simp only [grp, List.mem_filter, decide_eq_true_eq] at hx hy
    exact .inl (by omega)

theorem nodup_of_sorted {m : Nat → Nat} {l : List Nat} (h : l.Pairwise (Lex m)) : l.Nodup :=
  h.imp (fun {a b} hab e => by subst e; rcases hab with h | h <;> omega)

/-- Who is sorted so, and has just these, is that. -/
theorem sorted_ord {m : Nat → Nat} {n : Nat} {l : List Nat} (h8 : ∀ i, i < n → m i ≤ 8) (hs : l.Pairwise (Lex m)) (hm : ∀ i, i ∈ l ↔ i < n) : l = ord m n := by
  refine List.Perm.eq_of_pairwise (le := Lex m) ?_ hs (ord_sorted m n) ?_
  · intro a b _ _ h1 h2
    rcases h1 with h1 | h1 <;> rcases h2 with h2 | h2 <;> omega
  · rw [List.perm_ext_iff_of_nodup (nodup_of_sorted hs) (nodup_of_sorted (ord_sorted m n))]
    intro a
    rw [hm, mem_ord h8]

/-- What some take up. -/
def tk (m : Nat → Nat) (l : List Nat) : Nat := (l.map (fun j => 2 ^ (8 - m j))).sum
theorem tk_cons (m : Nat → Nat) (a : Nat) (l : List Nat) : tk m (a :: l) = 2 ^ (8 - m a) + tk m l := by simp [tk]
theorem tk_append (m : Nat → Nat) (a b : List Nat) : tk m (a ++ b) = tk m a + tk m b := by simp [tk]
theorem tk_one (m : Nat → Nat) (a : Nat) : tk m [a] = 2 ^ (8 - m a) := by simp [tk]

theorem tk_ord {m : Nat → Nat} {n : Nat} (h8 : ∀ i, i < n → m i ≤ 8) : tk m (ord m n) = tk m (List.range n) := by
  have : (ord m n).Perm (List.range n) := by
    rw [List.perm_ext_iff_of_nodup (nodup_of_sorted (ord_sorted m n)) List.nodup_range]
    intro a
    rw [mem_ord h8, List.mem_range]
  exact (this.map _).sum_nat

/-- The word of a symbol. -/
def word (m : Nat → Nat) (n i : Nat) : List Bool := dg (tk m ((ord m n).takeWhile (fun j => decide (j ≠ i))) / 2 ^ (8 - m i)) (m i)
theorem word_length (m : Nat → Nat) (n i : Nat) : (word m n i).length = m i := dg_length _ _

theorem word_at {m : Nat → Nat} {n i : Nat} {p r : List Nat} (h : ord m n = p ++ i :: r) : word m n i = dg (tk m p / 2 ^ (8 - m i)) (m i) := by
  have hnd := nodup_of_sorted (ord_sorted m n)
  have hp : i ∉ p := by
    rw [h] at hnd
    have := (List.nodup_append.1 hnd).2.2
    intro hi
    exact this i hi i (by simp) rfl
  have e : (ord m n).takeWhile (fun j => decide (j ≠ i)) = p := by
    rw [h, List.takeWhile_append_of_pos]
    · simp
    · intro a ha
      simp only [decide_eq_true_eq]
      intro e
      exact hp (e ▸ ha)
  unfold word
  rw [e]

/-- All that is ahead is no longer. -/
theorem ahead_le {m : Nat → Nat} {n i : Nat} {p r : List Nat} (h : ord m n = p ++ i :: r) (j : Nat) (hj : j ∈ p) : m j ≤ m i := by
  have hs := ord_sorted m n
  rw [h, List.pairwise_append] at hs
  rcases hs.2.2 j hj i (by simp) with h' | h' <;> omega

theorem tk_dvd (m : Nat → Nat) (s : Nat) : ∀ p : List Nat, (∀ j ∈ p, m j ≤ s) → 2 ^ (8 - s) ∣ tk m p
  | [], _ => by simp [tk]
  | a :: r, h => by
    rw [tk_cons]
    exact Nat.dvd_add (Nat.pow_dvd_pow 2 (by have := h a (by simp); omega)) (tk_dvd m s r (fun j hj => h j (by simp [hj])))

theorem covered (m : Nat → Nat) : ∀ (p : List Nat) (Y : Nat), Y < tk m p → ∃ p1 j p2, p = p1 ++ j :: p2 ∧ tk m p1 ≤ Y ∧ Y < tk m p1 + 2 ^ (8 - m j)
  | [], Y, h => by simp [tk] at h
  | a :: r, Y, h => by
    rw [tk_cons] at h
    by_cases hY : Y < 2 ^ (8 - m a)
    · exact ⟨[], a, r, rfl, by simp [tk], by simpa [tk] using hY⟩
    · obtain ⟨p1, j, p2, e, h1, h2⟩ := covered m r (Y - 2 ^ (8 - m a)) (by omega)
      exact ⟨a :: p1, j, p2, by rw [e]; rfl, by rw [tk_cons]; omega, by rw [tk_cons]; omega⟩

/-- Room enough. -/
structure Fit (m : Nat → Nat) (n : Nat) : Prop where
  le : ∀ i, i < n → m i ≤ 8
  sum : tk m (List.range n) ≤ 256

theorem Fit.le_at {m : Nat → Nat} {n i : Nat} {p r : List Nat} (hf : Fit m n) (h : ord m n = p ++ i :: r) : m i ≤ 8 := by
  refine hf.le i ?_
  rw [← mem_ord hf.le, h]
  simp

theorem Fit.room {m : Nat → Nat} {n i : Nat} {p r : List Nat} (hf : Fit m n) (h : ord m n = p ++ i :: r) : tk m p + 2 ^ (8 - m i) ≤ 256 := by
  have h1 := hf.sum
  rw [← tk_ord hf.le, h, tk_append, tk_cons] at h1
  omega

theorem pow_split {a b : Nat} (h : a ≤ b) (h' : b ≤ 8) : 2 ^ (8 - a) = 2 ^ (b - a) * 2 ^ (8 - b) := by
  rw [← Nat.pow_add]
  congr 1
  omega

theorem Fit.mul {m : Nat → Nat} {n i : Nat} {p r : List Nat} (h : ord m n = p ++ i :: r) : tk m p / 2 ^ (8 - m i) * 2 ^ (8 - m i) = tk m p :=
  Nat.div_mul_cancel (tk_dvd m (m i) p (ahead_le h))

theorem Fit.lt {m : Nat → Nat} {n i : Nat} {p r : List Nat} (hf : Fit m n) (h : ord m n = p ++ i :: r) : tk m p / 2 ^ (8 - m i) < 2 ^ (m i) := by
  have h1 := hf.room h
  have h2 := hf.le_at h
  rw [Nat.div_lt_iff_lt_mul (Nat.pow_pos (by omega)), ← Nat.pow_add, show m i + (8 - m i) = 8 by omega]
  have : 0 < 2 ^ (8 - m i) := Nat.pow_pos (by omega)
  omega

/-- Each lesser word is begun by one that was given. -/
theorem Fit.hit {m : Nat → Nat} {n i y : Nat} {p r : List Nat} (hf : Fit m n) (h : ord m n = p ++ i :: r) (hy : y < tk m p / 2 ^ (8 - m i)) :
    ∃ j, j ∈ p ∧ (word m n j).isPrefixOf (dg y (m i)) = true := by
  have hi8 := hf.le_at h
  have hlt := hf.lt h
  have hmul := Fit.mul h
  have hpos : 0 < 2 ^ (8 - m i) := Nat.pow_pos (by omega)
  have hY : y * 2 ^ (8 - m i) < tk m p := by
    rw [← hmul]
    exact Nat.mul_lt_mul_of_pos_right hy hpos
  obtain ⟨p1, j, p2, rfl, h1, h2⟩ := covered m p _ hY
  have hj : ord m n = p1 ++ j :: (p2 ++ i :: r) := by rw [h]; simp
  have hji : m j ≤ m i := ahead_le h j (by simp)
  refine ⟨j, by simp, ?_⟩
  rw [word_at hj, dg_pre hji (hf.lt hj) (by omega)]
  have hmj := Fit.mul hj
  generalize tk m p1 / 2 ^ (8 - m j) = x at hmj ⊢
  rw [← hmj] at h1 h2
  rw [pow_split hji hi8, ← Nat.mul_assoc] at h1
  rw [pow_split hji hi8, ← Nat.mul_assoc, ← Nat.add_mul] at h2
  have h1' := Nat.le_of_mul_le_mul_right h1 hpos
  have h2' := Nat.lt_of_mul_lt_mul_right h2
  refine (Nat.div_eq_of_lt_le h1' ?_).symm
  rw [Nat.add_mul, Nat.one_mul]
  exact h2'

/-- This one is begun by none. -/
theorem Fit.miss {m : Nat → Nat} {n i : Nat} {p r : List Nat} (hf : Fit m n) (h : ord m n = p ++ i :: r) (j : Nat) (hjp : j ∈ p) :
    (word m n j).isPrefixOf (dg (tk m p / 2 ^ (8 - m i)) (m i)) = false := by
  have hi8 := hf.le_at h
  have hlt := hf.lt h
  have hmul := Fit.mul h
  have hpos : 0 < 2 ^ (8 - m i) := Nat.pow_pos (by omega)
  have hji : m j ≤ m i := ahead_le h j hjp
  obtain ⟨p1, p2, rfl⟩ := List.append_of_mem hjp
  have hj : ord m n = p1 ++ j :: (p2 ++ i :: r) := by rw [h]; simp
  rw [Bool.eq_false_iff]
  intro hc
  rw [word_at hj, dg_pre hji (hf.lt hj) hlt] at hc
  have hmj := Fit.mul hj
  have hsp := pow_split hji hi8
  rw [tk_append, tk_cons] at hmul hc
  generalize tk m p1 / 2 ^ (8 - m j) = x at hmj hc
  generalize (tk m p1 + (2 ^ (8 - m j) + tk m p2)) / 2 ^ (8 - m i) = X at hmul hc
  have hq : 0 < 2 ^ (m i - m j) := Nat.pow_pos (by omega)
  have hX : X < (x + 1) * 2 ^ (m i - m j) := by
    rw [← Nat.div_lt_iff_lt_mul hq, ← hc]
    exact Nat.lt_succ_self x
  have hX2 : X * 2 ^ (8 - m i) < (x + 1) * 2 ^ (8 - m j) := by
    rw [hsp, ← Nat.mul_assoc]
    exact Nat.mul_lt_mul_of_pos_right hX hpos
  rw [Nat.add_mul, hmj, Nat.one_mul] at hX2
  omega

theorem Fit.apart {m : Nat → Nat} {n i j : Nat} {p q r : List Nat} (hf : Fit m n) (h : ord m n = p ++ i :: (q ++ j :: r)) : clash (word m n i) (word m n j) = false := by
  have hj : ord m n = (p ++ i :: q) ++ j :: r := by rw [h]; simp
  have h1 := hf.miss hj i (by simp)
  rw [← word_at hj] at h1
  have hij : m i ≤ m j := ahead_le hj i (by simp)
  unfold clash
  rw [h1, Bool.false_or, Bool.eq_false_iff]
  intro hc
  have hpre := List.isPrefixOf_iff_prefix.1 hc
  have hlen := hpre.length_le
  rw [word_length, word_length] at hlen
  have he := hpre.eq_of_length (by rw [word_length, word_length]; omega)
  rw [he] at h1
  have : (word m n i).isPrefixOf (word m n i) = true := List.isPrefixOf_iff_prefix.2 (List.prefix_refl _)
  rw [this] at h1
  cases h1

theorem Fit.clash {m : Nat → Nat} {n i j : Nat} (hf : Fit m n) (hi : i < n) (hj : j < n) (hne : i ≠ j) : clash (word m n i) (word m n j) = false := by
  obtain ⟨p, r, hp⟩ := List.append_of_mem ((mem_ord hf.le i).2 hi)
  have hm : j ∈ p ++ i :: r := by rw [← hp]; exact (mem_ord hf.le j).2 hj
  rcases List.mem_append.1 hm with h | h
  · obtain ⟨p1, p2, rfl⟩ := List.append_of_mem h
    rw [clash_comm]
    exact hf.apart (p := p1) (q := p2) (r := r) (by rw [hp]; simp)
  · rcases List.mem_cons.1 h with h | h
    · exact absurd h.symm hne
    · obtain ⟨p1, p2, rfl⟩ := List.append_of_mem h
      exact hf.apart (p := p) (q := p1) (r := p2) hp

/-- The bits of a number of eight digits from the greatest on. -/
theorem bits_dg (t s : Nat) (hs : s ≤ 8) : (List.range s).map (fun i => t.testBit (7 - i)) = dg (t / 2 ^ (8 - s)) s := by
  apply List.ext_getElem
  · simp [dg_length]
  · intro i h1 h2
    rw [dg_get, Nat.testBit_div_two_pow]
    simp at h1
    simp
    congr 1
    omega

end Go.Proofs.Ytfelbgilhhmbnaa
