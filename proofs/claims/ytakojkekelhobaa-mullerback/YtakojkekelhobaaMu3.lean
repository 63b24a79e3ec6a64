/-
  In plain mathematics: Reed's way back has the data where fewer than half of the distance are turned; two that are put are as far apart as that.
-/
import Derived.Test.YtakojkekelhobaaMu2
namespace Go.Proofs.Ytakojkekelhobaa

theorem and_xor (a b c : Bool) : (a && (b != c)) = ((a && b) != (a && c)) := by cases a <;> cases b <;> cases c <;> rfl
theorem xor_and (a b c : Bool) : ((a != b) && c) = ((a && c) != (b && c)) := by cases a <;> cases b <;> cases c <;> rfl

theorem pt_xor (N p : Nat) (l e : Nat → Bool) (o : Nat) : pt N p (fun x => l x != e x) o = (pt N p l o != pt N p e o) := by
  unfold pt
  rw [← xs_xor]
  exact xs_congr N (fun i _ => and_xor _ _ _)
theorem pt_congr {N p : Nat} {l e : Nat → Bool} (o : Nat) (h : ∀ x, x < N → l x = e x) : pt N p l o = pt N p e o := xs_congr N (fun i hi => by rw [h i hi])
theorem vt_congr {N p : Nat} {l e : Nat → Bool} (h : ∀ x, x < N → l x = e x) : vt N p l = vt N p e := by
  have : yes N p l N = yes N p e N := ct_congr N (fun o _ => by rw [pt_congr o h])
  unfold vt
  rw [this]
theorem cw_xor (L : List Nat) (D E : Nat → Bool) (x : Nat) : cw L (fun i => D i != E i) x = (cw L D x != cw L E x) := by
  unfold cw
  rw [← xs_xor]
  exact xs_congr _ (fun i _ => xor_and _ _ _)
theorem cw_congr {L : List Nat} {D E : Nat → Bool} (x : Nat) (h : ∀ i, i < L.length → D i = E i) : cw L D x = cw L E x := xs_congr _ (fun i hi => by rw [h i hi])

theorem pt_cw {m p o : Nat} (hm : m ≤ 4) (hp : p < 2 ^ m) (ho : o < 2 ^ m) (h0 : o &&& p = 0) {L : List Nat} {D : Nat → Bool} (hL : ∀ i, i < L.length → L.getD i 0 < 2 ^ m) (hd : ∀ i, i < L.length → D i = true → pop (L.getD i 0) ≤ pop p) :
    pt (2 ^ m) p (cw L D) o = xs (fun i => D i && L.getD i 0 == p) L.length := by
  unfold pt cw
  rw [xs_congr (g := fun x => xs (fun i => (x - (x &&& p) == o) && (D i && wi (L.getD i 0) x)) L.length) _ (fun x _ => (xs_and _ _ _).symm), xs_swap]
  refine xs_congr _ (fun i hi => ?_)
  cases hD : D i
  · rw [xs_false _ (fun x _ => by cases (x - (x &&& p) == o) <;> rfl)]; rfl
  · have k := key_at hm hp (hL i hi) ho (hd i hi hD) h0
    unfold pt at k
    simpa using k

theorem l_few {m r : Nat} (hm : m ≤ 4) (hr : r ≤ m) : (pl m (r + 1)).length ≤ 16 := pl_few ⟨m, by omega⟩ ⟨r + 1, by omega⟩
theorem l_at {m r i : Nat} (hm : m ≤ 4) (hr : r ≤ m) (hi : i < (pl m (r + 1)).length) : pop ((pl m (r + 1)).getD i 0) ≤ r ∧ (pl m (r + 1)).getD i 0 < 2 ^ m := by
  have h := l_few hm hr
  have := pl_deg ⟨m, by omega⟩ ⟨r + 1, by omega⟩ ⟨i, by omega⟩ hi
  exact ⟨by have := this.1; show _ ≤ _; simp only at this; omega, this.2⟩
theorem l_inj {m r i j : Nat} (hm : m ≤ 4) (hr : r ≤ m) (hi : i < (pl m (r + 1)).length) (hj : j < (pl m (r + 1)).length) (h : (pl m (r + 1)).getD i 0 = (pl m (r + 1)).getD j 0) : i = j := by
  have h1 := l_few hm hr
  exact pl_inj ⟨m, by omega⟩ ⟨r, by omega⟩ ⟨i, by omega⟩ ⟨j, by omega⟩ hi hj h
theorem all_eq {m p : Nat} (hm : m ≤ 4) (hp : p < 2 ^ m) : all p (2 ^ m) = 2 ^ (m - pop p) ∧ pop p ≤ m := by
  have hM : 2 ^ m ≤ 2 ^ 4 := Nat.pow_le_pow_right (by omega) hm
  exact all_at ⟨m, by omega⟩ ⟨p, by omega⟩ hp

/-- What the parts of a product have. -/
theorem part_is {m r : Nat} (hm : m ≤ 4) (hr : r ≤ m) {D : Nat → Bool} {j o : Nat} (hj : j < (pl m (r + 1)).length) (hd : ∀ i, i < (pl m (r + 1)).length → D i = true → pop ((pl m (r + 1)).getD i 0) ≤ pop ((pl m (r + 1)).getD j 0))
    (ho : o < 2 ^ m) (h0 : o &&& (pl m (r + 1)).getD j 0 = 0) : pt (2 ^ m) ((pl m (r + 1)).getD j 0) (cw (pl m (r + 1)) D) o = D j := by
  rw [pt_cw hm (l_at hm hr hj).2 ho h0 (fun i hi => (l_at hm hr hi).2) hd, xs_one (j := j) _ hj (fun i hi hne => ?_)]
  · simp
  · rw [show ((pl m (r + 1)).getD i 0 == (pl m (r + 1)).getD j 0) = false from beq_eq_false_iff_ne.2 (fun h => hne (l_inj hm hr hi hj h))]
    cases D i <;> rfl

/-- The vote on a product of the greatest degree that is left. -/
theorem vote_is {m r : Nat} (hm : m ≤ 4) (hr : r ≤ m) {D e : Nat → Bool} {j : Nat} (hj : j < (pl m (r + 1)).length) (hd : ∀ i, i < (pl m (r + 1)).length → D i = true → pop ((pl m (r + 1)).getD i 0) ≤ pop ((pl m (r + 1)).getD j 0))
    (he : 2 * ct e (2 ^ m) < 2 ^ (m - r)) : vt (2 ^ m) ((pl m (r + 1)).getD j 0) (fun x => cw (pl m (r + 1)) D x != e x) = D j := by
  obtain ⟨hA, _⟩ := all_eq hm (l_at hm hr hj).2
  have hpr := (l_at hm hr hj).1
  have hP := fun o (ho : o < 2 ^ m) (h0 : o &&& (pl m (r + 1)).getD j 0 = 0) => part_is hm hr (D := D) hj hd ho h0
  generalize (pl m (r + 1)).getD j 0 = p at *
  have hW := parts_le (fun o => o &&& p == 0) (fun x => x - (x &&& p)) e (2 ^ m) (2 ^ m)
  have hpw : 2 ^ (m - r) ≤ 2 ^ (m - pop p) := Nat.pow_le_pow_right (by omega) (by omega)
  have hE : ∀ o, o < 2 ^ m → ((o &&& p == 0) && pt (2 ^ m) p (fun x => cw (pl m (r + 1)) D x != e x) o) = ((o &&& p == 0) && (D j != pt (2 ^ m) p e o)) := fun o ho => by
    by_cases h0 : o &&& p = 0
    · rw [pt_xor, hP o ho h0]
    · rw [show (o &&& p == 0) = false from beq_eq_false_iff_ne.2 h0]; rfl
  have hY : yes (2 ^ m) p (fun x => cw (pl m (r + 1)) D x != e x) (2 ^ m) = ct (fun o => (o &&& p == 0) && (D j != pt (2 ^ m) p e o)) (2 ^ m) := ct_congr _ hE
  have hS := ct_and_not (fun o => o &&& p == 0) (fun o => pt (2 ^ m) p e o) (2 ^ m)
  have hAll : ct (fun o => o &&& p == 0) (2 ^ m) = all p (2 ^ m) := rfl
  have hW' : ct (fun o => (o &&& p == 0) && pt (2 ^ m) p e o) (2 ^ m) ≤ ct e (2 ^ m) := hW
  unfold vt
  rw [hY]
  cases hD : D j
  · rw [ct_congr (g := fun o => (o &&& p == 0) && pt (2 ^ m) p e o) _ (fun o _ => by rw [Bool.false_bne])]
    exact decide_eq_false (by omega)
  · rw [ct_congr (g := fun o => (o &&& p == 0) && !pt (2 ^ m) p e o) _ (fun o _ => by rw [Bool.true_bne])]
    exact decide_eq_true (by omega)

/-- REED: what is left, and what is told, behind k degrees. -/
theorem reed_step {m r : Nat} (hm : m ≤ 4) (hr : r ≤ m) {D e l : Nat → Bool} (hl : ∀ x, x < 2 ^ m → l x = (cw (pl m (r + 1)) D x != e x)) (he : 2 * ct e (2 ^ m) < 2 ^ (m - r)) :
    ∀ k, k ≤ r + 1 → (∀ x, x < 2 ^ m → lf (2 ^ m) (pl m (r + 1)) r l k x = (cw (pl m (r + 1)) (fun i => D i && decide (pop ((pl m (r + 1)).getD i 0) + k ≤ r)) x != e x)) ∧
      (∀ i, i < (pl m (r + 1)).length → gd (2 ^ m) (pl m (r + 1)) r l k i = (D i && decide (r < pop ((pl m (r + 1)).getD i 0) + k)))
  | 0, _ => by
    refine ⟨fun x hx => ?_, fun i hi => ?_⟩
    · show l x = _
      rw [hl x hx, cw_congr x (fun i hi => ?_)]
      have := (l_at hm hr hi).1
      rw [decide_eq_true (by omega), Bool.and_true]
    · have := (l_at hm hr hi).1
      rw [decide_eq_false (by omega), Bool.and_false]; rfl
  | k + 1, hk => by
    obtain ⟨h1, h2⟩ := reed_step hm hr hl he k (by omega)
    have hv : ∀ i, i < (pl m (r + 1)).length → (pop ((pl m (r + 1)).getD i 0) == r - k && vt (2 ^ m) ((pl m (r + 1)).getD i 0) (lf (2 ^ m) (pl m (r + 1)) r l k)) = (pop ((pl m (r + 1)).getD i 0) == r - k && D i) := fun i hi => by
      by_cases hp : pop ((pl m (r + 1)).getD i 0) = r - k
      · rw [vt_congr h1, vote_is hm hr hi (fun q hq hD => ?_) he]
        · rw [decide_eq_true (by omega), Bool.and_true]
        · rw [Bool.and_eq_true, decide_eq_true_eq] at hD
          omega
      · rw [show (pop ((pl m (r + 1)).getD i 0) == r - k) = false from beq_eq_false_iff_ne.2 hp]; rfl
    refine ⟨fun x hx => ?_, fun i hi => ?_⟩
    · show (lf (2 ^ m) (pl m (r + 1)) r l k x != cw (pl m (r + 1)) _ x) = _
      rw [h1 x hx, cw_congr x hv, show ∀ a b c : Bool, ((a != b) != c) = ((a != c) != b) from by decide, ← cw_xor, cw_congr x (fun i hi => ?_)]
      by_cases hp : pop ((pl m (r + 1)).getD i 0) = r - k
      · rw [show (pop ((pl m (r + 1)).getD i 0) == r - k) = true from beq_iff_eq.2 hp, decide_eq_true (by omega), decide_eq_false (by omega)]
        cases D i <;> rfl
      · rw [show (pop ((pl m (r + 1)).getD i 0) == r - k) = false from beq_eq_false_iff_ne.2 hp]
        have e1 : decide (pop ((pl m (r + 1)).getD i 0) + k ≤ r) = decide (pop ((pl m (r + 1)).getD i 0) + (k + 1) ≤ r) := decide_eq_decide.2 (by omega)
        rw [e1]
        cases D i <;> cases decide (pop ((pl m (r + 1)).getD i 0) + (k + 1) ≤ r) <;> rfl
    · show (gd (2 ^ m) (pl m (r + 1)) r l k i || _) = _
      rw [h2 i hi, hv i hi]
      by_cases hp : pop ((pl m (r + 1)).getD i 0) = r - k
      · rw [show (pop ((pl m (r + 1)).getD i 0) == r - k) = true from beq_iff_eq.2 hp, decide_eq_false (by omega), decide_eq_true (by omega)]
        cases D i <;> rfl
      · rw [show (pop ((pl m (r + 1)).getD i 0) == r - k) = false from beq_eq_false_iff_ne.2 hp]
        have e1 : decide (r < pop ((pl m (r + 1)).getD i 0) + k) = decide (r < pop ((pl m (r + 1)).getD i 0) + (k + 1)) := decide_eq_decide.2 (by omega)
        rw [e1]
        cases D i <;> cases decide (r < pop ((pl m (r + 1)).getD i 0) + (k + 1)) <;> rfl

theorem reed {m r : Nat} (hm : m ≤ 4) (hr : r ≤ m) {D e l : Nat → Bool} (hl : ∀ x, x < 2 ^ m → l x = (cw (pl m (r + 1)) D x != e x)) (he : 2 * ct e (2 ^ m) < 2 ^ (m - r)) {i : Nat} (hi : i < (pl m (r + 1)).length) :
    gd (2 ^ m) (pl m (r + 1)) r l (r + 1) i = D i := by
  rw [(reed_step hm hr hl he (r + 1) (Nat.le_refl _)).2 i hi, decide_eq_true (by omega), Bool.and_true]

theorem ex_max (f : Nat → Nat) (E : Nat → Bool) : ∀ n, (∃ i, i < n ∧ E i = true) → ∃ j, j < n ∧ E j = true ∧ ∀ i, i < n → E i = true → f i ≤ f j
  | 0, ⟨i, h, _⟩ => by omega
  | n + 1, ⟨i, h, h2⟩ => by
    by_cases hx : ∃ i, i < n ∧ E i = true
    · obtain ⟨j, hj, hE, hM⟩ := ex_max f E n hx
      by_cases hn : E n = true ∧ f j < f n
      · refine ⟨n, by omega, hn.1, fun q hq hqE => ?_⟩
        by_cases e : q = n
        · rw [e]; exact Nat.le_refl _
        · have := hM q (by omega) hqE
          omega
      · refine ⟨j, by omega, hE, fun q hq hqE => ?_⟩
        by_cases e : q = n
        · rw [e] at hqE ⊢
          exact Nat.le_of_not_lt (fun h => hn ⟨hqE, h⟩)
        · exact hM q (by omega) hqE
    · have : i = n := by
        by_cases e : i = n
        · exact e
        · exact absurd ⟨i, by omega, h2⟩ hx
      subst this
      refine ⟨i, by omega, h2, fun q hq hqE => ?_⟩
      by_cases e : q = i
      · rw [e]; exact Nat.le_refl _
      · exact absurd ⟨q, by omega, hqE⟩ hx

/-- MULLER: how far two that are put are apart. -/
theorem apart {m r : Nat} (hm : m ≤ 4) (hr : r ≤ m) {D E : Nat → Bool} (hne : ∃ i, i < (pl m (r + 1)).length ∧ D i ≠ E i) : 2 ^ (m - r) ≤ ct (fun x => cw (pl m (r + 1)) D x != cw (pl m (r + 1)) E x) (2 ^ m) := by
  obtain ⟨j, hj, hE, hM⟩ := ex_max (fun i => pop ((pl m (r + 1)).getD i 0)) (fun i => D i != E i) (pl m (r + 1)).length (by
    obtain ⟨i, hi, h⟩ := hne
    exact ⟨i, hi, bne_iff_ne.2 h⟩)
  obtain ⟨hA, _⟩ := all_eq hm (l_at hm hr hj).2
  have hpr := (l_at hm hr hj).1
  have hP := fun o (ho : o < 2 ^ m) (h0 : o &&& (pl m (r + 1)).getD j 0 = 0) => part_is hm hr (D := fun i => D i != E i) hj hM ho h0
  generalize (pl m (r + 1)).getD j 0 = p at *
  have hW : ct (fun o => (o &&& p == 0) && pt (2 ^ m) p (cw (pl m (r + 1)) (fun i => D i != E i)) o) (2 ^ m) ≤ ct (cw (pl m (r + 1)) (fun i => D i != E i)) (2 ^ m) := parts_le (fun o => o &&& p == 0) (fun x => x - (x &&& p)) (cw (pl m (r + 1)) (fun i => D i != E i)) (2 ^ m) (2 ^ m)
  have hpw : 2 ^ (m - r) ≤ 2 ^ (m - pop p) := Nat.pow_le_pow_right (by omega) (by omega)
  have hAll : ct (fun o => o &&& p == 0) (2 ^ m) = all p (2 ^ m) := rfl
  have hS : ct (fun o => (o &&& p == 0) && pt (2 ^ m) p (cw (pl m (r + 1)) (fun i => D i != E i)) o) (2 ^ m) = ct (fun o => o &&& p == 0) (2 ^ m) := ct_congr _ (fun o ho => by
    by_cases h0 : o &&& p = 0
    · rw [hP o ho h0]
      have hE' : (D j != E j) = true := hE
      rw [hE', Bool.and_true]
    · rw [show (o &&& p == 0) = false from beq_eq_false_iff_ne.2 h0]; rfl)
  rw [ct_congr (g := cw (pl m (r + 1)) (fun i => D i != E i)) _ (fun x _ => (cw_xor _ _ _ x).symm)]
  omega

end Go.Proofs.Ytakojkekelhobaa
