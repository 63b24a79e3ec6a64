/-
  Numbers as bits that tell their own length, in plain mathematics: how many digits there are, the digits, Gamma and Delta, and what is read of them.
-/
import Derived.Lib.BitFns
namespace Go.Proofs.Ytenpinjbeejamaa

/-- How many digits a number has. -/
def nd (n : Nat) : Nat := if n = 0 then 0 else n.log2 + 1
theorem nd_zero : nd 0 = 0 := rfl
theorem nd_half (n : Nat) (h : n ≠ 0) : nd n = nd (n / 2) + 1 := by
  unfold nd
  rw [if_neg h, Nat.log2_def]
  by_cases h2 : n ≥ 2
  · rw [if_pos h2, if_neg (by omega)]
  · rw [if_neg h2, if_pos (by omega)]
theorem nd_pos {n : Nat} (h : n ≠ 0) : 0 < nd n := by rw [nd_half n h]; omega
theorem nd_lt (n : Nat) : n < 2 ^ nd n := by
  unfold nd
  split
  · subst_vars; simp
  · exact Nat.lt_log2_self
theorem nd_le {n : Nat} (h : n ≠ 0) : 2 ^ (nd n - 1) ≤ n := by
  unfold nd
  rw [if_neg h]
  simpa using Nat.log2_self_le h
theorem nd_of {n k : Nat} (h1 : 2 ^ k ≤ n) (h2 : n < 2 ^ (k + 1)) : nd n = k + 1 := by
  have h0 : n ≠ 0 := by
    have := Nat.two_pow_pos k
    omega
  unfold nd
  rw [if_neg h0, (Nat.log2_eq_iff h0).2 ⟨h1, h2⟩]
theorem nd_below {n k : Nat} (h : n < 2 ^ k) : nd n ≤ k := by
  by_cases h0 : n = 0
  · subst h0; simp [nd_zero]
  · rcases Nat.lt_or_ge k (nd n) with h' | h'
    · have h1 := nd_le h0
      have h2 : 2 ^ k ≤ 2 ^ (nd n - 1) := Nat.pow_le_pow_right (by omega) (by omega)
      omega
    · exact h'
theorem nd_mono {n m : Nat} (h : n ≤ m) : nd n ≤ nd m := nd_below (Nat.lt_of_le_of_lt h (nd_lt m))
theorem nd_21 {n : Nat} (h : n ≤ 1048576) : nd n ≤ 21 := nd_below (by omega)
theorem bitLen_nd : ∀ (k n : Nat), n < 2 ^ k → k ≤ 64 → Lib.bitLen n = nd n
  | 0, n, h, _ => by
    have : n = 0 := by simpa using h
    subst this
    rfl
  | k + 1, n, h, hk => by
    by_cases h0 : n = 0
    · subst h0; rfl
    · have hp : 2 ^ (k + 1) ≤ 2 ^ 64 := Nat.pow_le_pow_right (by omega) hk
      rw [Lib.bitLen_half n h0 (by omega), nd_half n h0, bitLen_nd k (n / 2) (by rw [Nat.pow_succ] at h; omega) (by omega)]
      omega

/-- So many digits less, once halved so often. -/
theorem nd_shift : ∀ (k n : Nat), 2 ^ k ≤ n → nd n = k + nd (n / 2 ^ k)
  | 0, n, _ => by simp
  | k + 1, n, h => by
    have hp := Nat.two_pow_pos k
    rw [Nat.pow_succ] at h
    rw [nd_half n (by omega), nd_shift k (n / 2) (by omega), Nat.div_div_eq_div_mul, Nat.pow_succ, Nat.mul_comm 2]
    omega
/-- What the table of all bytes holds. -/
theorem tab_nd (q : Nat) (hq : q < 256) : Lib.len8 (q : Int) = (nd q : Int) := by
  rw [Lib.len8_of _ (by omega) (by omega), Int.toNat_natCast, bitLen_nd 8 q hq (by omega)]

/-- The digits of a number, the greatest first. -/
def dg (x m : Nat) : List Bool := (List.range m).map (fun i => x.testBit (m - 1 - i))
theorem dg_length (x m : Nat) : (dg x m).length = m := by simp [dg]
theorem dg_succ (x m : Nat) : dg x (m + 1) = x.testBit m :: dg x m := by
  unfold dg
  rw [List.range_succ_eq_map, List.map_cons, List.map_map]
  congr 1
  apply List.map_congr_left
  intro i _
  show x.testBit (m + 1 - 1 - (i + 1)) = _
  congr 1
  omega
theorem dg_snoc (x m : Nat) : dg x (m + 1) = dg (x / 2) m ++ [x.testBit 0] := by
  unfold dg
  rw [List.range_succ, List.map_append]
  congr 1
  · apply List.map_congr_left
    intro i hi
    have := List.mem_range.1 hi
    rw [show m + 1 - 1 - i = (m - 1 - i) + 1 by omega, Nat.testBit_succ]
  · simp

/-- The number that digits make behind a number. -/
def vn (a : Nat) (l : List Bool) : Nat := l.foldl (fun n b => 2 * n + b.toNat) a
theorem vn_nil (a : Nat) : vn a [] = a := rfl
theorem vn_cons (a : Nat) (b : Bool) (l : List Bool) : vn a (b :: l) = vn (2 * a + b.toNat) l := rfl
theorem vn_append (a : Nat) (l r : List Bool) : vn a (l ++ r) = vn (vn a l) r := by unfold vn; rw [List.foldl_append]
theorem vn_snoc (a : Nat) (l : List Bool) (b : Bool) : vn a (l ++ [b]) = 2 * vn a l + b.toNat := by rw [vn_append]; rfl
theorem vn_ge : ∀ (l : List Bool) (a : Nat), a * 2 ^ l.length ≤ vn a l
  | [], a => by simp [vn]
  | b :: l, a => by
    rw [vn_cons, List.length_cons, Nat.pow_succ]
    refine Nat.le_trans ?_ (vn_ge l _)
    have h : a * (2 ^ l.length * 2) = 2 * a * 2 ^ l.length := by rw [Nat.mul_comm (2 ^ l.length) 2, ← Nat.mul_assoc, Nat.mul_comm a 2]
    rw [h]
    exact Nat.mul_le_mul_right _ (by omega)
theorem vn_lt : ∀ (l : List Bool) (a : Nat), vn a l < (a + 1) * 2 ^ l.length
  | [], a => by simp [vn]
  | b :: l, a => by
    rw [vn_cons, List.length_cons, Nat.pow_succ]
    refine Nat.lt_of_lt_of_le (vn_lt l _) ?_
    have h : (a + 1) * (2 ^ l.length * 2) = 2 * (a + 1) * 2 ^ l.length := by rw [Nat.mul_comm (2 ^ l.length) 2, ← Nat.mul_assoc, Nat.mul_comm (a + 1) 2]
    rw [h]
    refine Nat.mul_le_mul_right _ ?_
    cases b <;> simp <;> omega
theorem vn_le (a : Nat) (l : List Bool) : a ≤ vn a l := by
  have h := vn_ge l a
  have : 1 ≤ 2 ^ l.length := Nat.two_pow_pos _
  exact Nat.le_trans (Nat.le_mul_of_pos_right a this) h
theorem nd_vn (l : List Bool) : nd (vn 1 l) = l.length + 1 := by
  refine nd_of ?_ ?_
  · have := vn_ge l 1; omega
  · have := vn_lt l 1; rw [Nat.pow_succ]; omega
theorem vn_dg : ∀ (m a x : Nat), vn a (dg x m) = a * 2 ^ m + x % 2 ^ m
  | 0, a, x => by simp [dg, vn, Nat.mod_one]
  | m + 1, a, x => by
    rw [dg_succ, vn_cons, vn_dg m, Nat.mod_pow_succ, Nat.testBit_eq_decide_div_mod_eq, Nat.pow_succ]
    have h2 : a * (2 ^ m * 2) = 2 * a * 2 ^ m := by rw [Nat.mul_comm (2 ^ m) 2, ← Nat.mul_assoc, Nat.mul_comm a 2]
    rw [h2]
    rcases Nat.mod_two_eq_zero_or_one (x / 2 ^ m) with h | h
    · rw [h]; simp
    · rw [h]
      simp only [decide_true, Bool.toNat_true, Nat.add_mul, Nat.one_mul, Nat.mul_one]
      omega
theorem dg_vn (a : Nat) (l : List Bool) : dg (vn a l) l.length = l := by
  obtain ⟨k, hk⟩ : ∃ k, l.length = k := ⟨_, rfl⟩
  induction k generalizing l with
  | zero =>
    have : l = [] := List.eq_nil_of_length_eq_zero hk
    subst this
    rfl
  | succ k ih =>
    obtain ⟨m, b, rfl⟩ : ∃ m b, l = m ++ [b] := ⟨l.dropLast, l.getLast (by intro h; rw [h] at hk; cases hk), (List.dropLast_concat_getLast _).symm⟩
    rw [List.length_append, List.length_singleton, dg_snoc, vn_snoc]
    rw [show (2 * vn a m + b.toNat) / 2 = vn a m by cases b <;> simp <;> omega, ih m (by simpa using hk)]
    congr 2
    rw [Nat.testBit_zero]
    cases b <;> simp <;> omega

/-- One digit goes without saying. -/
theorem dg_nd {n : Nat} (h : n ≠ 0) : dg n (nd n) = true :: dg n (nd n - 1) := by
  obtain ⟨k, hk⟩ : ∃ k, nd n = k + 1 := ⟨nd n - 1, by have := nd_pos h; omega⟩
  have h1 := nd_le h
  have h2 := nd_lt n
  rw [hk] at h1 h2 ⊢
  rw [dg_succ]
  congr 1
  rw [Nat.testBit_eq_decide_div_mod_eq, decide_eq_true_eq]
  simp only [Nat.add_sub_cancel] at h1
  have h3 : n / 2 ^ k = 1 := by
    have a1 : 1 ≤ n / 2 ^ k := (Nat.le_div_iff_mul_le (Nat.two_pow_pos k)).2 (by omega)
    have a2 : n / 2 ^ k < 2 := (Nat.div_lt_iff_lt_mul (Nat.two_pow_pos k)).2 (by rw [Nat.pow_succ] at h2; omega)
    omega
  rw [h3]
theorem vn_nd {n : Nat} (h : n ≠ 0) : vn 1 (dg n (nd n - 1)) = n := by
  obtain ⟨k, hk⟩ : ∃ k, nd n = k + 1 := ⟨nd n - 1, by have := nd_pos h; omega⟩
  have h1 := nd_le h
  have h2 := nd_lt n
  rw [hk] at h1 h2 ⊢
  simp only [Nat.add_sub_cancel] at h1 ⊢
  rw [vn_dg, Nat.mod_eq_sub_mod h1, Nat.mod_eq_of_lt (by rw [Nat.pow_succ] at h2; omega)]
  omega

def gam (n : Nat) : List Bool := List.replicate (nd n - 1) false ++ dg n (nd n)
def del (n : Nat) : List Bool := gam (nd n) ++ dg n (nd n - 1)
theorem gam_length (n : Nat) : (gam n).length = nd n - 1 + nd n := by simp [gam, dg_length]
theorem del_length (n : Nat) : (del n).length = nd (nd n) - 1 + nd (nd n) + (nd n - 1) := by simp [del, gam_length, dg_length]

/-- How many zeros come first. -/
def zr (l : List Bool) : Nat := l.findIdx id
theorem zr_le (l : List Bool) : zr l ≤ l.length := List.findIdx_le_length
/-- The number of so many digits from a place on, one ahead that goes without saying; and where they end. -/
def rd (l : List Bool) (s m : Nat) : Option (Nat × Nat) := if s + m ≤ l.length ∧ vn 1 ((l.drop s).take m) ≤ 1048576 then some (vn 1 ((l.drop s).take m), s + m) else none
def rdG (l : List Bool) : Option (Nat × Nat) := if zr l < l.length then rd l (zr l + 1) (zr l) else none
def rdD (l : List Bool) : Option (Nat × Nat) := (rdG l).bind (fun p => rd l p.2 (p.1 - 1))

theorem zr_zeros (k : Nat) (r : List Bool) : zr (List.replicate k false ++ true :: r) = k := by
  unfold zr
  induction k with
  | zero => rfl
  | succ k ih => rw [List.replicate_succ, List.cons_append, List.findIdx_cons, ih]; rfl
theorem zr_split (l : List Bool) (h : zr l < l.length) : l = List.replicate (zr l) false ++ true :: l.drop (zr l + 1) := by
  induction l with
  | nil => simp at h
  | cons b l ih =>
    cases b with
    | true => rfl
    | false =>
      have e : zr (false :: l) = zr l + 1 := by unfold zr; rw [List.findIdx_cons]; rfl
      rw [e] at h ⊢
      rw [List.replicate_succ, List.cons_append, List.drop_succ_cons]
      exact congrArg (false :: ·) (ih (by simpa using h))

theorem rd_some {l : List Bool} {s m n e : Nat} (h : rd l s m = some (n, e)) : s + m ≤ l.length ∧ n ≤ 1048576 ∧ e = s + m ∧ n = vn 1 ((l.drop s).take m) := by
  unfold rd at h
  split at h
  · rename_i hc
    simp only [Option.some.injEq, Prod.mk.injEq] at h
    obtain ⟨rfl, rfl⟩ := h
    exact ⟨hc.1, hc.2, rfl, rfl⟩
  · cases h
theorem rd_take {l : List Bool} {s m n e : Nat} (h : rd l s m = some (n, e)) : n ≠ 0 ∧ nd n = m + 1 ∧ dg n m = (l.drop s).take m := by
  obtain ⟨h1, _, _, rfl⟩ := rd_some h
  have hl : ((l.drop s).take m).length = m := by simp; omega
  have h3 := nd_vn ((l.drop s).take m)
  have h4 := dg_vn 1 ((l.drop s).take m)
  rw [hl] at h3 h4
  refine ⟨?_, h3, h4⟩
  intro h0
  rw [h0, nd_zero] at h3
  omega
/-- Of digits that stand behind a word they are read. -/
theorem rd_dg {n : Nat} (h0 : n ≠ 0) (hn : n ≤ 1048576) (p r : List Bool) : rd (p ++ (dg n (nd n - 1) ++ r)) p.length (nd n - 1) = some (n, p.length + (nd n - 1)) := by
  have e : ((p ++ (dg n (nd n - 1) ++ r)).drop p.length).take (nd n - 1) = dg n (nd n - 1) := by
    rw [List.drop_left, List.take_append_of_le_length (by rw [dg_length]; omega), List.take_of_length_le (by rw [dg_length]; omega)]
  unfold rd
  rw [e, vn_nd h0, if_pos]
  refine ⟨?_, hn⟩
  simp [dg_length]

theorem gam_eq {n : Nat} (h0 : n ≠ 0) (r : List Bool) : gam n ++ r = List.replicate (nd n - 1) false ++ true :: (dg n (nd n - 1) ++ r) := by
  unfold gam
  rw [dg_nd h0, List.append_assoc, List.cons_append]
theorem rdG_gam {n : Nat} (h0 : n ≠ 0) (hn : n ≤ 1048576) (r : List Bool) : rdG (gam n ++ r) = some (n, (gam n).length) := by
  rw [gam_length, gam_eq h0]
  unfold rdG
  rw [zr_zeros, if_pos (by simp)]
  have h := rd_dg h0 hn (List.replicate (nd n - 1) false ++ [true]) r
  have hp := nd_pos h0
  simp only [List.length_append, List.length_replicate, List.length_singleton, List.append_assoc, List.singleton_append] at h
  rw [h]
  congr 2
  omega
theorem rdD_del {n : Nat} (h0 : n ≠ 0) (hn : n ≤ 1048576) (r : List Bool) : rdD (del n ++ r) = some (n, (del n).length) := by
  have hp := nd_pos h0
  have h21 := nd_21 hn
  unfold rdD del
  rw [List.append_assoc, rdG_gam (by omega) (by omega), Option.bind_some]
  simp only
  rw [rd_dg h0 hn, List.length_append, dg_length]

theorem rdG_some {l : List Bool} {n e : Nat} (h : rdG l = some (n, e)) : n ≠ 0 ∧ n ≤ 1048576 ∧ 1 ≤ e ∧ e ≤ l.length ∧ gam n = l.take e := by
  unfold rdG at h
  split at h
  · rename_i hz
    obtain ⟨h1, h2, h3, _⟩ := rd_some h
    obtain ⟨h5, h6, h7⟩ := rd_take h
    refine ⟨h5, h2, by omega, by omega, ?_⟩
    have hs := zr_split l hz
    generalize zr l = k at *
    have ht : l.take e = List.replicate (k) false ++ true :: (l.drop (k + 1)).take (k) := by
      rw [h3, show k + 1 + k = k + (k + 1) by omega]
      conv => lhs; rw [hs]
      rw [List.take_append, List.length_replicate, List.take_of_length_le (by simp), show k + (k + 1) - k = k + 1 by omega, List.take_succ_cons]
    rw [ht, ← h7]
    have := gam_eq h5 []
    rw [List.append_nil, List.append_nil, h6] at this
    rw [this]
    rfl
  · cases h
theorem rdD_some {l : List Bool} {n e : Nat} (h : rdD l = some (n, e)) : n ≠ 0 ∧ n ≤ 1048576 ∧ 1 ≤ e ∧ e ≤ l.length ∧ del n = l.take e := by
  unfold rdD at h
  cases hg : rdG l with
  | none => rw [hg] at h; cases h
  | some p =>
    obtain ⟨c, u⟩ := p
    rw [hg, Option.bind_some] at h
    simp only at h
    obtain ⟨g1, g2, g3, g4, g5⟩ := rdG_some hg
    obtain ⟨h1, h2, h3, _⟩ := rd_some h
    obtain ⟨h5, h6, h7⟩ := rd_take h
    refine ⟨h5, h2, by omega, by omega, ?_⟩
    unfold del
    have hc : nd n = c := by omega
    rw [hc, g5, h7, h3, List.take_add]

end Go.Proofs.Ytenpinjbeejamaa
