/-
  In plain mathematics: symbols with parts, whose each number below the total is, the number that comes of a number and a symbol, both of it again, and texts.
-/
import Derived.Test.YtchnlbanhkigjaaChecked
namespace Go.Proofs.Ytchnlbanhkigjaa

/-- The parts of a symbol. -/
def pt (p : List Nat) (s : Nat) : Nat := p.getD s 0
/-- The first of the numbers that are the symbol's. -/
def fs (p : List Nat) (s : Nat) : Nat := (p.take s).sum
/-- Whose a number is. -/
def ow : List Nat → Nat → Nat
  | [], _ => 0
  | k :: p, r => if r < k then 0 else ow p (r - k) + 1

theorem fs_zero (p : List Nat) : fs p 0 = 0 := by simp [fs]
theorem pt_none {p : List Nat} {s : Nat} (h : p.length ≤ s) : pt p s = 0 := by
  unfold pt
  rw [List.getD_eq_getElem?_getD, List.getElem?_eq_none h]
  rfl
theorem fs_succ (p : List Nat) (s : Nat) : fs p (s + 1) = fs p s + pt p s := by
  rcases Nat.lt_or_ge s p.length with h | h
  · unfold fs pt
    rw [List.take_succ_eq_append_getElem h, List.sum_append]
    simp [List.getD_eq_getElem?_getD, h]
  · rw [pt_none h]
    unfold fs
    rw [List.take_of_length_le (by omega), List.take_of_length_le h]
    rfl
theorem fs_all (p : List Nat) : fs p p.length = p.sum := by
  unfold fs
  rw [List.take_length]
theorem fs_mono (p : List Nat) (s d : Nat) : fs p s ≤ fs p (s + d) := by
  induction d with
  | zero => exact Nat.le_refl _
  | succ d ih => rw [← Nat.add_assoc, fs_succ]; omega
theorem fs_over {p : List Nat} {s : Nat} (h : p.length ≤ s) : fs p s = p.sum := by
  unfold fs
  rw [List.take_of_length_le h]
theorem fs_top (p : List Nat) (s : Nat) : fs p s ≤ p.sum := by
  have := fs_mono p s p.length
  rw [fs_over (s := s + p.length) (by omega)] at this
  exact this
theorem fs_le (p : List Nat) (s : Nat) : fs p s + pt p s ≤ p.sum := by
  rw [← fs_succ]
  exact fs_top p (s + 1)
theorem pt_le (p : List Nat) (s : Nat) : pt p s ≤ p.sum := by
  have := fs_le p s
  omega

theorem ow_spec : ∀ (p : List Nat) (r : Nat), r < p.sum → ow p r < p.length ∧ fs p (ow p r) ≤ r ∧ r < fs p (ow p r) + pt p (ow p r)
  | [], r, h => by simp at h
  | k :: p, r, h => by
    unfold ow
    split
    · rename_i h'
      refine ⟨by simp, by simp [fs], ?_⟩
      simpa [fs, pt] using h'
    · rename_i h'
      have hs : (k :: p).sum = k + p.sum := List.sum_cons
      obtain ⟨h1, h2, h3⟩ := ow_spec p (r - k) (by omega)
      have e1 : fs (k :: p) (ow p (r - k) + 1) = k + fs p (ow p (r - k)) := by simp [fs]
      have e2 : pt (k :: p) (ow p (r - k) + 1) = pt p (ow p (r - k)) := by simp [pt]
      rw [e1, e2]
      exact ⟨by simp; omega, by omega, by omega⟩

theorem ow_of {p : List Nat} {r s : Nat} (h1 : fs p s ≤ r) (h2 : r < fs p s + pt p s) : ow p r = s := by
  have h3 := fs_le p s
  obtain ⟨k1, k2, k3⟩ := ow_spec p r (by omega)
  rcases Nat.lt_trichotomy (ow p r) s with h | h | h
  · have := fs_mono p (ow p r + 1) (s - (ow p r + 1))
    rw [show ow p r + 1 + (s - (ow p r + 1)) = s by omega, fs_succ] at this
    omega
  · exact h
  · have := fs_mono p (s + 1) (ow p r - (s + 1))
    rw [show s + 1 + (ow p r - (s + 1)) = ow p r by omega, fs_succ] at this
    omega

/-- What comes of x and a symbol. -/
def pu (p : List Nat) (x s : Nat) : Nat := x / pt p s * p.sum + fs p s + x % pt p s
/-- Of which symbol x has come. -/
def ts (p : List Nat) (x : Nat) : Nat := ow p (x % p.sum)
/-- Of which number x has come. -/
def tx (p : List Nat) (x : Nat) : Nat := x / p.sum * pt p (ts p x) + (x % p.sum - fs p (ts p x))

theorem div_of {q T r : Nat} (h : r < T) : (q * T + r) / T = q := by
  rw [Nat.add_comm, Nat.add_mul_div_right _ _ (by omega), Nat.div_eq_of_lt h, Nat.zero_add]
theorem mod_of {q T r : Nat} (h : r < T) : (q * T + r) % T = r := by
  rw [Nat.add_comm, Nat.add_mul_mod_self_right, Nat.mod_eq_of_lt h]

theorem ts_put {p : List Nat} {x s : Nat} (h : 0 < pt p s) : ts p (pu p x s) = s := by
  have h1 := fs_le p s
  have h2 := Nat.mod_lt x h
  unfold ts pu
  rw [Nat.add_assoc, mod_of (by omega)]
  exact ow_of (by omega) (by omega)
theorem tx_put {p : List Nat} {x s : Nat} (h : 0 < pt p s) : tx p (pu p x s) = x := by
  have h1 := fs_le p s
  have h2 := Nat.mod_lt x h
  unfold tx
  rw [ts_put h]
  unfold pu
  rw [Nat.add_assoc, mod_of (by omega), div_of (by omega), Nat.add_sub_cancel_left]
  have := Nat.div_add_mod x (pt p s)
  rw [Nat.mul_comm] at this
  exact this

theorem ts_pos {p : List Nat} {x : Nat} (h : 0 < p.sum) : 0 < pt p (ts p x) := by
  obtain ⟨h1, h2, h3⟩ := ow_spec p (x % p.sum) (Nat.mod_lt _ h)
  unfold ts
  omega
theorem ts_lt {p : List Nat} {x : Nat} (h : 0 < p.sum) : ts p x < p.length := (ow_spec p (x % p.sum) (Nat.mod_lt _ h)).1
theorem put_take {p : List Nat} {x : Nat} (h : 0 < p.sum) : pu p (tx p x) (ts p x) = x := by
  obtain ⟨h1, h2, h3⟩ := ow_spec p (x % p.sum) (Nat.mod_lt _ h)
  have e : ow p (x % p.sum) = ts p x := rfl
  rw [e] at h1 h2 h3
  unfold pu tx
  rw [div_of (by omega), mod_of (by omega)]
  have := Nat.div_add_mod x p.sum
  rw [Nat.mul_comm] at this
  omega

theorem pu_ge {p : List Nat} (x : Nat) {s : Nat} : x ≤ pu p x s := by
  have h1 := pt_le p s
  have h2 := Nat.mul_le_mul_left (x / pt p s) h1
  have h3 := Nat.div_add_mod x (pt p s)
  rw [Nat.mul_comm] at h3
  unfold pu
  omega
theorem tx_le {p : List Nat} {x : Nat} (h : 0 < p.sum) : tx p x ≤ x := by
  have := pu_ge (p := p) (tx p x) (s := ts p x)
  rw [put_take h] at this
  exact this
theorem pu_lt {p : List Nat} {x y s : Nat} (h : 0 < pt p s) (hxy : x < y) : pu p x s < pu p y s := by
  have h1 := fs_le p s
  have hx := Nat.mod_lt x h
  have hy := Nat.mod_lt y h
  have dx := Nat.div_add_mod x (pt p s)
  have dy := Nat.div_add_mod y (pt p s)
  have hd : x / pt p s ≤ y / pt p s := Nat.div_le_div_right (by omega)
  unfold pu
  rcases Nat.lt_or_ge (x / pt p s) (y / pt p s) with hl | hl
  · have h5 := Nat.mul_le_mul_right p.sum hl
    rw [Nat.succ_mul] at h5
    omega
  · have e : x / pt p s = y / pt p s := by omega
    rw [e] at dx ⊢
    omega
theorem pu_lt_iff {p : List Nat} {x y s : Nat} (h : 0 < pt p s) : pu p x s < pu p y s ↔ x < y := by
  constructor
  · intro hl
    rcases Nat.lt_trichotomy x y with h' | rfl | h'
    · exact h'
    · omega
    · have := pu_lt h h'
      omega
  · exact pu_lt h

/-- Whose the first numbers are, of the symbols ahead of s. -/
def ol (p : List Nat) : Nat → List Int
  | 0 => []
  | s + 1 => ol p s ++ List.replicate (pt p s) (s : Int)
theorem ol_length (p : List Nat) : ∀ s, (ol p s).length = fs p s
  | 0 => by simp [ol, fs]
  | s + 1 => by simp [ol, ol_length p s, fs_succ]
theorem ol_at (p : List Nat) : ∀ s r, r < fs p s → (ol p s).getD r 0 = (ow p r : Nat)
  | 0, r, h => by simp [fs] at h
  | s + 1, r, h => by
    rw [fs_succ] at h
    have hl := ol_length p s
    rcases Nat.lt_or_ge r (fs p s) with h' | h'
    · have ih := ol_at p s r h'
      rw [← ih]
      simp only [ol, List.getD_eq_getElem?_getD]
      rw [List.getElem?_append_left (by omega)]
    · rw [ow_of h' h]
      simp only [ol, List.getD_eq_getElem?_getD]
      rw [List.getElem?_append_right (by omega), List.getElem?_replicate, if_pos (by omega)]
      rfl

/-- What put tells: the error, and the number. -/
def pe (p : List Nat) (x : Nat) (s : Int) : Int := if 0 ≤ s ∧ s < p.length ∧ pt p s.toNat ≠ 0 then (if pu p x s.toNat ≤ 1099511627776 then 0 else 1) else 2
def pv (p : List Nat) (x : Nat) (s : Int) : Nat := if pe p x s = 0 then pu p x s.toNat else 0

theorem pe_arg {p : List Nat} {x : Nat} {s : Int} (h : ¬ (0 ≤ s ∧ s < p.length ∧ pt p s.toNat ≠ 0)) : pe p x s = 2 := if_neg h
theorem pe_nat {p : List Nat} {x s : Nat} (h : 0 < pt p s) : pe p x s = if pu p x s ≤ 1099511627776 then 0 else 1 := by
  have hl : s < p.length := by
    rcases Nat.lt_or_ge s p.length with h' | h'
    · exact h'
    · rw [pt_none h'] at h; omega
  unfold pe
  rw [if_pos ⟨by omega, by omega, by rw [Int.toNat_natCast]; omega⟩, Int.toNat_natCast]
theorem pv_bad {p : List Nat} {x : Nat} {s : Int} (h : pe p x s ≠ 0) : pv p x s = 0 := if_neg h
theorem pe_ok {p : List Nat} {x : Nat} {s : Int} (h : pe p x s = 0) : ∃ k : Nat, s = k ∧ k < p.length ∧ 0 < pt p k ∧ pu p x k ≤ 1099511627776 ∧ pv p x s = pu p x k := by
  have h' := h
  unfold pe at h'
  split at h'
  · rename_i c
    obtain ⟨c1, c2, c3⟩ := c
    split at h'
    · rename_i d
      refine ⟨s.toNat, by omega, by omega, by omega, d, ?_⟩
      unfold pv
      rw [if_pos h]
    · exact absurd h' (by decide)
  · exact absurd h' (by decide)
theorem pe_range (p : List Nat) (x : Nat) (s : Int) : 0 ≤ pe p x s ∧ pe p x s ≤ 2 := by
  unfold pe
  split
  · split <;> omega
  · omega

/-- What Write tells of symbols: the number, and the error. -/
def wt (p : List Nat) : List Int → Nat × Int
  | [] => (0, 0)
  | s :: l => if (wt p l).2 = 0 then (pv p (wt p l).1 s, pe p (wt p l).1 s) else (0, (wt p l).2)

theorem drop_at (l : List Int) (k : Nat) (h : k < l.length) : l.drop k = l.getD k 0 :: l.drop (k + 1) := by
  rw [List.drop_eq_getElem_cons h]
  simp [List.getD_eq_getElem?_getD, h]

theorem wt_step (p : List Nat) (l : List Int) (k : Nat) (h : k < l.length) (e : (wt p (l.drop (k + 1))).2 = 0) :
    wt p (l.drop k) = (pv p (wt p (l.drop (k + 1))).1 (l.getD k 0), pe p (wt p (l.drop (k + 1))).1 (l.getD k 0)) := by
  rw [drop_at l k h]
  show (if (wt p (l.drop (k + 1))).2 = 0 then _ else _) = _
  rw [if_pos e]
theorem wt_bad (p : List Nat) (l : List Int) : ∀ k, k ≤ l.length → (wt p (l.drop k)).2 ≠ 0 → wt p l = (0, (wt p (l.drop k)).2) ∨ k = 0
  | 0, _, _ => Or.inr rfl
  | k + 1, hk, h => by
    left
    have e : wt p (l.drop k) = (0, (wt p (l.drop (k + 1))).2) := by
      rw [drop_at l k (by omega)]
      show (if (wt p (l.drop (k + 1))).2 = 0 then _ else _) = _
      rw [if_neg h]
    rcases wt_bad p l k (by omega) (by rw [e]; exact h) with h' | rfl
    · rw [h', e]
    · rw [List.drop_zero] at e
      exact e
theorem wt_zero (p : List Nat) : ∀ l, (wt p l).2 ≠ 0 → (wt p l).1 = 0
  | [], h => absurd rfl h
  | s :: l, h => by
    unfold wt at h ⊢
    split
    · rename_i c
      rw [if_pos c] at h
      exact pv_bad h
    · rfl
theorem wt_few (p : List Nat) : ∀ l, (wt p l).1 ≤ 1099511627776
  | [] => by simp [wt]
  | s :: l => by
    unfold wt
    split
    · show pv _ _ _ ≤ _
      by_cases c : pe p (wt p l).1 s = 0
      · obtain ⟨k, _, _, _, h4, h5⟩ := pe_ok c
        rw [h5]
        exact h4
      · rw [pv_bad c]
        omega
    · simp
/-- A text that is told: all ahead of it was. -/
theorem wt_tail {p : List Nat} {s : Int} {l : List Int} (h : (wt p (s :: l)).2 = 0) : (wt p l).2 = 0 ∧ ∃ k : Nat, s = k ∧ 0 < pt p k ∧ (wt p (s :: l)).1 = pu p (wt p l).1 k := by
  have e : wt p (s :: l) = if (wt p l).2 = 0 then (pv p (wt p l).1 s, pe p (wt p l).1 s) else (0, (wt p l).2) := rfl
  rw [e] at h ⊢
  by_cases c : (wt p l).2 = 0
  · rw [if_pos c] at h ⊢
    obtain ⟨k, h1, _, h3, _, h5⟩ := pe_ok h
    exact ⟨c, k, h1, h3, h5⟩
  · rw [if_neg c] at h
    exact absurd h c

/-- What is left of x behind so many symbols. -/
def st (p : List Nat) (x : Nat) : Nat → Nat
  | 0 => x
  | k + 1 => tx p (st p x k)
theorem st_le {p : List Nat} {x : Nat} (h : 0 < p.sum) : ∀ k, st p x k ≤ x
  | 0 => Nat.le_refl _
  | k + 1 => Nat.le_trans (tx_le h) (st_le h k)
/-- The symbols that are read. -/
def rl (p : List Nat) (x n : Nat) : List Int := (List.range n).map fun i => (ts p (st p x i) : Int)
theorem rl_length (p : List Nat) (x n : Nat) : (rl p x n).length = n := by simp [rl]
theorem rl_zero (p : List Nat) (x : Nat) : rl p x 0 = [] := rfl
theorem rl_succ (p : List Nat) (x n : Nat) : rl p x (n + 1) = rl p x n ++ [(ts p (st p x n) : Int)] := by
  unfold rl
  rw [List.range_succ, List.map_append]
  rfl

theorem st_shift (p : List Nat) (x : Nat) : ∀ k, st p (tx p x) k = st p x (k + 1)
  | 0 => rfl
  | k + 1 => by
    show tx p (st p (tx p x) k) = _
    rw [st_shift p x k]
    rfl
theorem rl_shift (p : List Nat) (x n : Nat) : rl p x (n + 1) = (ts p x : Int) :: rl p (tx p x) n := by
  unfold rl
  rw [List.range_succ_eq_map, List.map_cons, List.map_map]
  congr 1
  apply List.map_congr_left
  intro i _
  show (ts p (st p x (i + 1)) : Int) = _
  rw [st_shift]

/-- What was written is read, and 0 is left. -/
theorem text_back (p : List Nat) : ∀ l : List Int, (wt p l).2 = 0 → rl p (wt p l).1 l.length = l ∧ st p (wt p l).1 l.length = 0
  | [], _ => ⟨rfl, rfl⟩
  | s :: l, h => by
    obtain ⟨h1, k, rfl, h3, h4⟩ := wt_tail h
    obtain ⟨i1, i2⟩ := text_back p l h1
    rw [h4, List.length_cons, rl_shift, ← st_shift, ts_put h3, tx_put h3]
    exact ⟨by rw [i1], i2⟩

/-- Parts that may be. -/
def Prt (z : List Int) : Prop := (∀ k ∈ z, 0 ≤ k) ∧ 1 ≤ z.sum ∧ z.sum ≤ 16

/-- Parts, as numbers from 0 on. -/
def nt (z : List Int) : List Nat := z.map Int.toNat
theorem nt_length (z : List Int) : (nt z).length = z.length := by simp [nt]
theorem nt_sum : ∀ z : List Int, (∀ k ∈ z, 0 ≤ k) → z.sum = ((nt z).sum : Nat)
  | [], _ => rfl
  | k :: z, h => by
    have ih := nt_sum z (fun j hj => h j (List.mem_cons_of_mem _ hj))
    have hk := h k List.mem_cons_self
    have e : nt (k :: z) = k.toNat :: nt z := rfl
    rw [e, List.sum_cons, List.sum_cons, ih]
    omega
theorem nt_at : ∀ (z : List Int), (∀ k ∈ z, 0 ≤ k) → ∀ i, z.getD i 0 = (pt (nt z) i : Nat)
  | [], _, i => by simp [pt, nt]
  | k :: z, h, i => by
    have ih := nt_at z (fun j hj => h j (List.mem_cons_of_mem _ hj))
    have hk := h k List.mem_cons_self
    cases i with
    | zero => simp [pt, nt]; omega
    | succ i => simpa [pt, nt] using ih i
theorem sum_nonneg : ∀ z : List Int, (∀ k ∈ z, 0 ≤ k) → 0 ≤ z.sum
  | [], _ => by simp
  | k :: z, h => by
    have := sum_nonneg z (fun j hj => h j (List.mem_cons_of_mem _ hj))
    have := h k List.mem_cons_self
    rw [List.sum_cons]
    omega
theorem sum_take_succ (z : List Int) (i : Nat) (h : i < z.length) : (z.take (i + 1)).sum = (z.take i).sum + z.getD i 0 := by
  rw [List.take_succ_eq_append_getElem h, List.sum_append]
  simp [List.getD_eq_getElem?_getD, h]
theorem sum_take_le {z : List Int} (h : ∀ k ∈ z, 0 ≤ k) (i : Nat) : (z.take i).sum ≤ z.sum := by
  have e : (z.take i).sum + (z.drop i).sum = z.sum := by rw [← List.sum_append, List.take_append_drop]
  have := sum_nonneg (z.drop i) (fun k hk => h k (List.mem_of_mem_drop hk))
  omega
theorem getD_mem {z : List Int} {i : Nat} (h : i < z.length) : z.getD i 0 ∈ z := by
  have : z.getD i 0 = z[i] := by simp [List.getD_eq_getElem?_getD, h]
  rw [this]
  exact List.getElem_mem h
theorem prt_low {z : List Int} {i : Nat} (h : i < z.length) (hk : z.getD i 0 < 0) : ¬ Prt z := fun hp => by
  have := hp.1 _ (getD_mem h)
  omega
theorem prt_high {z : List Int} {i : Nat} (h : i < z.length) (hk : 16 - (z.take i).sum < z.getD i 0) : ¬ Prt z := fun hp => by
  have h1 := sum_take_le hp.1 (i + 1)
  rw [sum_take_succ z i h] at h1
  have := hp.2.2
  omega
theorem prt_great {z : List Int} {i : Nat} (h : i < z.length) (hk : 16 < z.getD i 0) : ¬ Prt z := fun hp => by
  have h1 := sum_nonneg (z.take i) (fun k hk => hp.1 k (List.mem_of_mem_take hk))
  exact prt_high h (by omega) hp
theorem all_nonneg {z : List Int} (h : ∀ i, i < z.length → 0 ≤ z.getD i 0) : ∀ k ∈ z, 0 ≤ k := fun k hk => by
  obtain ⟨i, hi, rfl⟩ := List.mem_iff_getElem.1 hk
  have := h i hi
  simpa [List.getD_eq_getElem?_getD, hi] using this

end Go.Proofs.Ytchnlbanhkigjaa
