/-
  In plain mathematics: what muller.mostVotes has behind each degree.
-/
import Derived.Test.YtakojkekelhobaaSo
namespace Go.Proofs.Ytakojkekelhobaa
open Go.RowKit
set_option linter.unusedVariables false

/-- How many products are left when the k greatest degrees are taken. -/
def ed (m r k : Nat) : Nat := (pl m (r + 1 - k)).length

theorem ed_step {m r k : Nat} (hm : m ≤ 4) (hr : r ≤ m) (hk : k ≤ r) : ed m r (k + 1) < ed m r k ∧ ed m r k ≤ (pl m (r + 1)).length := by
  have h1 : ∀ m r k : Fin 5, r.val ≤ m.val → k.val ≤ r.val → ed m.val r.val (k.val + 1) < ed m.val r.val k.val ∧ ed m.val r.val k.val ≤ (pl m.val (r.val + 1)).length := by decide +kernel
  exact h1 ⟨m, by omega⟩ ⟨r, by omega⟩ ⟨k, by omega⟩ hr hk
theorem ed_zero (m r : Nat) : ed m r 0 = (pl m (r + 1)).length := rfl
theorem ed_all (m r : Nat) : ed m r (r + 1) = 0 := by unfold ed; rw [Nat.sub_self]; rfl
theorem ed_deg {m r k i : Nat} (hm : m ≤ 4) (hr : r ≤ m) (hk : k ≤ r) (hi : i < (pl m (r + 1)).length) : (ed m r (k + 1) ≤ i ∧ i < ed m r k) ↔ pop ((pl m (r + 1)).getD i 0) = r - k := by
  have h1 := l_few hm hr
  have h := pl_at ⟨m, by omega⟩ ⟨r, by omega⟩ ⟨r - k, by omega⟩ ⟨i, by omega⟩ (by show r - k ≤ r; omega) hi
  unfold ed
  rw [show r + 1 - (k + 1) = r - k by omega, show r + 1 - k = r - k + 1 by omega]
  exact h

theorem gd_top {N : Nat} {L : List Nat} {r : Nat} {l : Nat → Bool} {i : Nat} : ∀ k, k ≤ r + 1 → gd N L r l k i = true → r < pop (L.getD i 0) + k
  | 0, _, h => by cases h
  | k + 1, hk, h => by
    have h' : (gd N L r l k i || (pop (L.getD i 0) == r - k && vt N (L.getD i 0) (lf N L r l k))) = true := h
    rw [Bool.or_eq_true, Bool.and_eq_true, beq_iff_eq] at h'
    rcases h' with h' | h'
    · have := gd_top k (by omega) h'; omega
    · omega

theorem xs_part (f : Nat → Bool) (s : Nat) (d : Nat) (hz : ∀ i, i < s → f i = false) : xs f (s + d) = xs (fun i => f (s + i)) d := by
  induction d with
  | zero => exact xs_false s hz
  | succ d ih =>
    show (xs f (s + d) != f (s + d)) = (xs (fun i => f (s + i)) d != f (s + d))
    rw [ih]
theorem xs_more (f : Nat → Bool) (e d : Nat) (hz : ∀ i, e ≤ i → i < e + d → f i = false) : xs f (e + d) = xs f e := by
  induction d with
  | zero => rfl
  | succ d ih =>
    show (xs f (e + d) != f (e + d)) = _
    rw [ih (fun i h1 h2 => hz i h1 (by omega)), hz (e + d) (by omega) (by omega)]
    cases xs f e <;> rfl
theorem xs_mid {f : Nat → Bool} {s e n : Nat} (h1 : s ≤ e) (h2 : e ≤ n) (hz : ∀ i, i < n → ¬ (s ≤ i ∧ i < e) → f i = false) : xs f n = xs (fun i => f (s + i)) (e - s) := by
  obtain ⟨d, rfl⟩ : ∃ d, e = s + d := ⟨e - s, by omega⟩
  obtain ⟨q, rfl⟩ : ∃ q, n = s + d + q := ⟨n - (s + d), by omega⟩
  rw [xs_more f (s + d) q (fun i h1 h2 => hz i h2 (by omega)), xs_part f s d (fun i hi => hz i (by omega) (by omega)), Nat.add_sub_cancel_left]

/-- What the sum of a degree's chosen products is. -/
def cc (N : Nat) (L : List Nat) (r : Nat) (l : Nat → Bool) (k x : Nat) : Bool := cw L (fun i => pop (L.getD i 0) == r - k && vt N (L.getD i 0) (lf N L r l k)) x
theorem lf_succ (N : Nat) (L : List Nat) (r : Nat) (l : Nat → Bool) (k x : Nat) : lf N L r l (k + 1) x = (lf N L r l k x != cc N L r l k x) := rfl

theorem gd_in {m r k i : Nat} (hm : m ≤ 4) (hr : r ≤ m) (hk : k ≤ r) {l : Nat → Bool} (hi : i < (pl m (r + 1)).length) :
    gd (2 ^ m) (pl m (r + 1)) r l (k + 1) i = if ed m r (k + 1) ≤ i ∧ i < ed m r k then vt (2 ^ m) ((pl m (r + 1)).getD i 0) (lf (2 ^ m) (pl m (r + 1)) r l k) else gd (2 ^ m) (pl m (r + 1)) r l k i := by
  have hd := ed_deg hm hr hk hi
  show (gd _ _ _ _ k i || (pop ((pl m (r + 1)).getD i 0) == r - k && _)) = _
  by_cases h : ed m r (k + 1) ≤ i ∧ i < ed m r k
  · rw [if_pos h]
    have hp := hd.1 h
    rw [show (pop ((pl m (r + 1)).getD i 0) == r - k) = true from beq_iff_eq.2 hp, Bool.true_and]
    cases hg : gd (2 ^ m) (pl m (r + 1)) r l k i
    · rfl
    · have := gd_top k (by omega) hg; omega
  · rw [if_neg h, show (pop ((pl m (r + 1)).getD i 0) == r - k) = false from beq_eq_false_iff_ne.2 (fun e => h (hd.2 e)), Bool.false_and, Bool.or_false]

theorem cc_is {m r k : Nat} (hm : m ≤ 4) (hr : r ≤ m) (hk : k ≤ r) {l : Nat → Bool} (x : Nat) :
    cc (2 ^ m) (pl m (r + 1)) r l k x = xs (fun i => gd (2 ^ m) (pl m (r + 1)) r l (k + 1) (ed m r (k + 1) + i) && wi ((pl m (r + 1)).getD (ed m r (k + 1) + i) 0) x) (ed m r k - ed m r (k + 1)) := by
  obtain ⟨h1, h2⟩ := ed_step hm hr hk
  unfold cc cw
  rw [xs_mid (s := ed m r (k + 1)) (e := ed m r k) (Nat.le_of_lt h1) h2 (fun i hi hn => by
    simp only []
    rw [show (pop ((pl m (r + 1)).getD i 0) == r - k) = false from beq_eq_false_iff_ne.2 (fun e => hn ((ed_deg hm hr hk hi).2 e))]; rfl)]
  refine xs_congr _ (fun i hi => ?_)
  have hin : ed m r (k + 1) ≤ ed m r (k + 1) + i ∧ ed m r (k + 1) + i < ed m r k := by omega
  simp only []
  rw [gd_in hm hr hk (by omega), if_pos hin, show (pop ((pl m (r + 1)).getD (ed m r (k + 1) + i) 0) == r - k) = true from beq_iff_eq.2 ((ed_deg hm hr hk (by omega)).1 hin), Bool.true_and]

end Go.Proofs.Ytakojkekelhobaa
