/-
  In plain mathematics: bits of which the first k are turned; the least k that makes half of them set; the bits with that k behind them, and how the bits come back of these.
-/
import Derived.Test.YtibedfdgkknoiaaBase
namespace Go.Proofs.Ytibedfdgkknoiaa
set_option linter.unusedVariables false

/-- How many are set. -/
def on : List Bool → Nat
  | [] => 0
  | b :: l => on l + b.toNat
/-- The first k turned. -/
def tt : Nat → List Bool → List Bool
  | 0, l => l
  | _ + 1, [] => []
  | k + 1, b :: l => (!b) :: tt k l
theorem tt_nil : ∀ k, tt k [] = []
  | 0 => rfl
  | _ + 1 => rfl
theorem tt_len : ∀ (k : Nat) (l : List Bool), (tt k l).length = l.length
  | 0, l => rfl
  | k + 1, [] => rfl
  | k + 1, b :: l => congrArg (· + 1) (tt_len k l)
theorem tt_tt : ∀ (k : Nat) (l : List Bool), tt k (tt k l) = l
  | 0, l => rfl
  | k + 1, [] => rfl
  | k + 1, b :: l => by
    show (!(!b)) :: tt k (tt k l) = _
    rw [tt_tt k l, Bool.not_not]
theorem tt_at : ∀ (k : Nat) (l : List Bool), k < l.length → (tt k l).getD k false = l.getD k false
  | 0, l, _ => rfl
  | k + 1, [], h => absurd h (Nat.not_lt_zero _)
  | k + 1, b :: l, h => tt_at k l (Nat.lt_of_succ_lt_succ h)
theorem tt_next : ∀ (k : Nat) (l : List Bool), k < l.length → tt (k + 1) l = (tt k l).set k (!((tt k l).getD k false))
  | 0, [], h => absurd h (Nat.lt_irrefl _)
  | 0, b :: l, _ => by
    show (!b) :: tt 0 l = _
    rfl
  | k + 1, [], h => absurd h (Nat.not_lt_zero _)
  | k + 1, b :: l, h => congrArg ((!b) :: ·) (tt_next k l (Nat.lt_of_succ_lt_succ h))
theorem on_le : ∀ l, on l ≤ l.length
  | [] => Nat.le_refl _
  | b :: l => by
    have := on_le l
    show on l + b.toNat ≤ l.length + 1
    cases b <;> simp <;> omega
theorem on_app : ∀ l m, on (l ++ m) = on l + on m
  | [], m => (Nat.zero_add _).symm
  | b :: l, m => by
    show on (l ++ m) + b.toNat = on l + b.toNat + on m
    rw [on_app l m]; omega
theorem on_take {l : List Bool} {k : Nat} (h : k < l.length) : on (l.take (k + 1)) = on (l.take k) + (l.getD k false).toNat := by
  have e : l.getD k false = l[k] := by simp [List.getD_eq_getElem?_getD, h]
  rw [List.take_succ_eq_append_getElem h, on_app, e]
  show _ + (0 + _) = _
  omega
theorem on_next : ∀ (k : Nat) (l : List Bool), k < l.length → on (tt (k + 1) l) + (l.getD k false).toNat = on (tt k l) + (!(l.getD k false)).toNat
  | 0, [], h => absurd h (Nat.lt_irrefl _)
  | 0, b :: l, _ => by
    show on l + (!b).toNat + b.toNat = on l + b.toNat + (!b).toNat
    omega
  | k + 1, [], h => absurd h (Nat.not_lt_zero _)
  | k + 1, b :: l, h => by
    have := on_next k l (Nat.lt_of_succ_lt_succ h)
    show on (tt (k + 1) l) + (!b).toNat + (l.getD k false).toNat = on (tt k l) + (!b).toNat + (!(l.getD k false)).toNat
    omega
theorem on_all : ∀ l, on (tt l.length l) + on l = l.length
  | [] => rfl
  | b :: l => by
    have := on_all l
    show on (tt l.length l) + (!b).toNat + (on l + b.toNat) = l.length + 1
    cases b <;> simp <;> omega

/-- With the first k turned half of the bits are set. -/
def ev (l : List Bool) (k : Nat) : Prop := 2 * on (tt k l) = l.length
instance (l : List Bool) (k : Nat) : Decidable (ev l k) := inferInstanceAs (Decidable (_ = _))

/-- KNUTH: with one more turned there is one more or one less: so half of the bits are set on the way. -/
theorem ev_some (l : List Bool) (h : l.length % 2 = 0) : ∃ k, k ≤ l.length ∧ ev l k := by
  refine Classical.byContradiction fun hn => ?_
  have hn : ∀ k, k ≤ l.length → 2 * on (tt k l) ≠ l.length := fun k hk he => hn ⟨k, hk, he⟩
  have step : ∀ k, k < l.length → on (tt (k + 1) l) ≤ on (tt k l) + 1 ∧ on (tt k l) ≤ on (tt (k + 1) l) + 1 := fun k hk => by
    have := on_next k l hk
    generalize l.getD k false = q at this
    cases q <;> simp at this <;> omega
  have ha := on_all l
  have h0 := hn 0 (Nat.zero_le _)
  have h00 : on (tt 0 l) = on l := rfl
  by_cases hl : 2 * on (tt 0 l) < l.length
  · have : ∀ k, k ≤ l.length → 2 * on (tt k l) < l.length := fun k => by
      induction k with
      | zero => exact fun _ => hl
      | succ k ih =>
        intro hk
        have h1 := ih (by omega)
        have h2 := step k (by omega)
        have h3 := hn (k + 1) hk
        omega
    have := this _ (Nat.le_refl _)
    omega
  · have : ∀ k, k ≤ l.length → l.length < 2 * on (tt k l) := fun k => by
      induction k with
      | zero => exact fun _ => by omega
      | succ k ih =>
        intro hk
        have h1 := ih (by omega)
        have h2 := step k (by omega)
        have h3 := hn (k + 1) hk
        omega
    have := this _ (Nat.le_refl _)
    omega

/-- The first of so many numbers from k on that does. -/
def se (l : List Bool) : Nat → Nat → Nat
  | 0, k => k
  | f + 1, k => if ev l k then k else se l f (k + 1)
theorem se_spec (l : List Bool) : ∀ (f k : Nat), (∃ j, k ≤ j ∧ j ≤ k + f ∧ ev l j) → k ≤ se l f k ∧ se l f k ≤ k + f ∧ ev l (se l f k) ∧ ∀ j, k ≤ j → j < se l f k → ¬ ev l j
  | 0, k, ⟨j, h1, h2, h3⟩ => by
    obtain rfl : j = k := by omega
    exact ⟨Nat.le_refl _, Nat.le_refl _, h3, fun i h4 h5 => absurd h5 (Nat.not_lt.2 h4)⟩
  | f + 1, k, ⟨j, h1, h2, h3⟩ => by
    by_cases hk : ev l k
    · have e : se l (f + 1) k = k := if_pos hk
      rw [e]
      exact ⟨Nat.le_refl _, Nat.le_add_right _ _, hk, fun i h4 h5 => absurd h5 (Nat.not_lt.2 h4)⟩
    · have e : se l (f + 1) k = se l f (k + 1) := if_neg hk
      rw [e]
      have hj : j ≠ k := fun e => hk (e ▸ h3)
      obtain ⟨a, b, c, d⟩ := se_spec l f (k + 1) ⟨j, by omega, by omega, h3⟩
      refine ⟨by omega, by omega, c, fun i h4 h5 => ?_⟩
      rcases Nat.eq_or_lt_of_le h4 with rfl | h6
      · exact hk
      · exact d i h6 h5
/-- The least k. -/
def lk (l : List Bool) : Nat := se l l.length 0
theorem lk_spec {l : List Bool} (h : l.length % 2 = 0) : lk l ≤ l.length ∧ 2 * on (tt (lk l) l) = l.length ∧ ∀ j, j < lk l → 2 * on (tt j l) ≠ l.length := by
  obtain ⟨k, h1, h2⟩ := ev_some l h
  obtain ⟨_, b, c, d⟩ := se_spec l l.length 0 ⟨k, Nat.zero_le _, by omega, h2⟩
  rw [Nat.zero_add] at b
  exact ⟨b, c, fun j hj => d j (Nat.zero_le _) hj⟩

/-- The first s digits of a number with four, the greatest first. -/
def d4 (k s : Nat) : List Bool := (List.range s).map (fun i => k.testBit (3 - i))
theorem d4_next (k s : Nat) : d4 k (s + 1) = d4 k s ++ [k.testBit (3 - s)] := by
  unfold d4
  rw [List.range_succ, List.map_append]; rfl
theorem d4_len (k s : Nat) : (d4 k s).length = s := by simp [d4]
/-- Each with its opposite behind it. -/
def dd : List Bool → List Bool
  | [] => []
  | b :: l => b :: (!b) :: dd l
theorem dd_len : ∀ l, (dd l).length = 2 * l.length
  | [] => rfl
  | b :: l => by
    show (dd l).length + 1 + 1 = 2 * (l.length + 1)
    rw [dd_len l]; omega
theorem dd_app : ∀ l m, dd (l ++ m) = dd l ++ dd m
  | [], m => rfl
  | b :: l, m => by
    show b :: (!b) :: dd (l ++ m) = b :: (!b) :: (dd l ++ dd m)
    rw [dd_app l m]
theorem on_dd : ∀ l, on (dd l) = l.length
  | [] => rfl
  | b :: l => by
    show on (dd l) + (!b).toNat + b.toNat = l.length + 1
    rw [on_dd l]
    cases b <;> rfl
/-- What is put. -/
def pt (l : List Bool) : List Bool := tt (lk l) l ++ dd (d4 (lk l) 4)
theorem pt_len (l : List Bool) : (pt l).length = l.length + 8 := by
  unfold pt
  rw [List.length_append, tt_len, dd_len, d4_len]
theorem pt_half {l : List Bool} (h : l.length % 2 = 0) : 2 * on (pt l) = l.length + 8 := by
  unfold pt
  have := (lk_spec h).2.1
  rw [on_app, on_dd, d4_len]; omega

/-- The number that the first s of the digits tell, whatever stands beside them. -/
def cn (l : List Bool) : Nat → Nat
  | 0 => 0
  | s + 1 => 2 * cn l s + (l.getD (2 * s) false).toNat
theorem cn_low (l : List Bool) : ∀ s, cn l s < 2 ^ s
  | 0 => Nat.one_pos
  | s + 1 => by
    have := cn_low l s
    show 2 * cn l s + _ < _
    rw [Nat.pow_succ]
    cases l.getD (2 * s) false <;> simp <;> omega
theorem cn_dd (k : Nat) (h : k < 16) : cn (dd (d4 k 4)) 4 = k := by
  have : ∀ k : Fin 16, cn (dd (d4 k.val 4)) 4 = k.val := by decide +kernel
  exact this ⟨k, h⟩

/-- The bits that alone can have become l. -/
def tx (l : List Bool) : List Bool := tt (cn (l.drop (l.length - 8)) 4) (l.take (l.length - 8))
theorem tx_pt {x : List Bool} (h : x.length ≤ 12) (h2 : x.length % 2 = 0) : cn ((pt x).drop ((pt x).length - 8)) 4 = lk x ∧ tx (pt x) = x := by
  have e : (pt x).length - 8 = (tt (lk x) x).length := by rw [pt_len, tt_len]; omega
  have hk := (lk_spec h2).1
  have e1 : (pt x).drop ((pt x).length - 8) = dd (d4 (lk x) 4) := by rw [e]; exact List.drop_left
  have e2 : (pt x).take ((pt x).length - 8) = tt (lk x) x := by rw [e]; exact List.take_left
  refine ⟨by rw [e1]; exact cn_dd _ (by omega), ?_⟩
  unfold tx
  rw [e1, e2, cn_dd _ (by omega), tt_tt]

/-- What is got. -/
def gt (l : List Bool) : Option (List Bool) := if 8 ≤ l.length ∧ l.length % 2 = 0 ∧ cn (l.drop (l.length - 8)) 4 ≤ l.length - 8 ∧ pt (tx l) = l then some (tx l) else none
theorem gt_pt {x : List Bool} (h : x.length ≤ 12) (h2 : x.length % 2 = 0) : gt (pt x) = some x := by
  obtain ⟨e1, e2⟩ := tx_pt h h2
  unfold gt
  rw [e1, e2, pt_len, if_pos ⟨by omega, by omega, by have := (lk_spec h2).1; omega, rfl⟩]
theorem gt_some {l x : List Bool} (h : gt l = some x) : 8 ≤ l.length ∧ l.length % 2 = 0 ∧ cn (l.drop (l.length - 8)) 4 ≤ l.length - 8 ∧ pt (tx l) = l ∧ x = tx l ∧ x.length = l.length - 8 := by
  unfold gt at h
  by_cases hc : 8 ≤ l.length ∧ l.length % 2 = 0 ∧ cn (l.drop (l.length - 8)) 4 ≤ l.length - 8 ∧ pt (tx l) = l
  · rw [if_pos hc] at h
    injection h with h
    refine ⟨hc.1, hc.2.1, hc.2.2.1, hc.2.2.2, h.symm, ?_⟩
    rw [← h]
    unfold tx
    rw [tt_len, List.length_take]; omega
  · rw [if_neg hc] at h
    cases h
theorem gt_back {l x : List Bool} (h : gt l = some x) : pt x = l := by
  obtain ⟨_, _, _, h1, h2, _⟩ := gt_some h
  rw [h2, h1]
/-- Some number of turned bits does. -/
theorem gt_found {l : List Bool} {k : Nat} (h8 : 8 ≤ l.length) (h20 : l.length ≤ 20) (h2 : l.length % 2 = 0) (h : pt (tt k (l.take (l.length - 8))) = l) : gt l = some (tt k (l.take (l.length - 8))) := by
  have e : (tt k (l.take (l.length - 8))).length = l.length - 8 := by rw [tt_len, List.length_take]; omega
  have := gt_pt (x := tt k (l.take (l.length - 8))) (by omega) (by omega)
  rw [h] at this
  exact this
/-- No number of turned bits does. -/
theorem gt_none {l : List Bool} (h : ∀ k, k ≤ l.length - 8 → pt (tt k (l.take (l.length - 8))) ≠ l) : gt l = none := by
  unfold gt
  exact if_neg fun ⟨_, _, h1, h2⟩ => h _ h1 h2
theorem gt_short {l : List Bool} (h : l.length < 8) : gt l = none := if_neg fun ⟨h1, _⟩ => by omega
theorem gt_odd {l : List Bool} (h : l.length % 2 ≠ 0) : gt l = none := if_neg fun ⟨_, h1, _⟩ => h h1
end Go.Proofs.Ytibedfdgkknoiaa
