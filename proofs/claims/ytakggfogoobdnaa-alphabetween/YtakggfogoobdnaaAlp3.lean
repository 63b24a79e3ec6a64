/-
  Gilbert and Moore's bound, and Garsia and Wachs' case of weights that rise, in plain mathematics.
-/
import Derived.Test.YtakggfogoobdnaaAlp2
namespace Go.Proofs.Ytakggfogoobdnaa

/-- The next place from F on that is a multiple of s. -/
def rup (F s : Nat) : Nat := (F + s - 1) / s * s
theorem rup_dvd (F s : Nat) : s ∣ rup F s := ⟨(F + s - 1) / s, Nat.mul_comm _ _⟩
theorem rup_ge (F s : Nat) (hs : 0 < s) : F ≤ rup F s := by
  have h := Nat.lt_mul_div_succ (F + s - 1) hs
  rw [Nat.mul_add, Nat.mul_one, Nat.mul_comm] at h
  unfold rup
  omega
theorem rup_lt (F s : Nat) (hs : 0 < s) : rup F s < F + s := by
  have h := Nat.div_mul_le_self (F + s - 1) s
  unfold rup
  omega

/-- One bit more each, in the middle of its room. -/
def gm : Nat → List Nat → List (Nat × Nat)
  | _, [] => []
  | F, x :: l => (rup F (2 ^ (7 - x)), x + 1) :: gm (F + 2 ^ (8 - x)) l

theorem gm_len : ∀ (l : List Nat) (F : Nat), (gm F l).map (·.2) = up1 l
  | [], _ => rfl
  | x :: l, F => by simp [gm, gm_len l]

theorem gm_fits : ∀ (l : List Nat) (F : Nat), (∀ x ∈ l, x ≤ 7) → (∀ p ∈ gm F l, p.2 ≤ 8 ∧ F ≤ p.1 ∧ p.1 + 2 ^ (8 - p.2) ≤ F + ks l ∧ 2 ^ (8 - p.2) ∣ p.1) ∧ (gm F l).Pairwise fun p q => p.1 + 2 ^ (8 - p.2) ≤ q.1
  | [], _, _ => ⟨fun p hp => (by cases hp), List.Pairwise.nil⟩
  | x :: l, F, h => by
    have hx := h x (by simp)
    obtain ⟨h1, h2⟩ := gm_fits l (F + 2 ^ (8 - x)) (fun y hy => h y (by simp [hy]))
    have hs : 0 < 2 ^ (7 - x) := Nat.pow_pos (by omega)
    have h8 : 2 ^ (8 - x) = 2 ^ (7 - x) + 2 ^ (7 - x) := by rw [show 8 - x = (7 - x) + 1 by omega, Nat.pow_succ]; omega
    have g1 := rup_ge F (2 ^ (7 - x)) hs
    have g2 := rup_lt F (2 ^ (7 - x)) hs
    have e7 : 8 - (x + 1) = 7 - x := by omega
    refine ⟨?_, ?_⟩
    · intro p hp
      rcases List.mem_cons.1 hp with rfl | hp
      · refine ⟨by simp; omega, g1, ?_, ?_⟩
        · simp only [e7, ks_cons]
          omega
        · simp only [e7]
          exact rup_dvd _ _
      · obtain ⟨k1, k2, k3, k4⟩ := h1 p hp
        refine ⟨k1, by omega, ?_, k4⟩
        rw [ks_cons]
        generalize 2 ^ (8 - p.2) = e at *
        omega
    · refine List.Pairwise.cons ?_ h2
      intro q hq
      obtain ⟨_, k2, _⟩ := h1 q hq
      simp only [e7]
      omega

theorem gm_place {l : List Nat} (hne : l ≠ []) (h7 : ∀ x ∈ l, x ≤ 7) (hk : ks l ≤ 256) : ∃ t, TT l.length t ∧ ∀ v, dot v t ≤ dot v (up1 l) := by
  obtain ⟨h1, h2⟩ := gm_fits l 0 h7
  have hlen : (gm 0 l).length = l.length := by have := congrArg List.length (gm_len l 0); simpa using this
  obtain ⟨t, k1, k2⟩ := place0 (P := gm 0 l) (by intro h; rw [h] at hlen; exact hne (List.eq_nil_of_length_eq_zero hlen.symm))
    ⟨fun p hp => (h1 p hp).1, fun p hp => (h1 p hp).2.1, fun p hp => by have := (h1 p hp).2.2.1; omega, fun p hp => (h1 p hp).2.2.2, h2⟩
  refine ⟨t, by rw [← hlen]; exact k1, fun v => ?_⟩
  have := k2.dot (v := v)
  rwa [gm_len] at this

/-- Lengths that fall, without a gap, from the right. -/
def sp : List Nat → List (Nat × Nat)
  | [] => []
  | x :: l => (256 - ks (x :: l), x) :: sp l

theorem sp_len : ∀ l : List Nat, (sp l).map (·.2) = l
  | [] => rfl
  | x :: l => by simp [sp, sp_len l]

theorem ks_dvd {x : Nat} (hx : x ≤ 8) : ∀ l : List Nat, (∀ y ∈ l, y ≤ x) → 2 ^ (8 - x) ∣ ks l
  | [], _ => ⟨0, rfl⟩
  | y :: l, h => by
    rw [ks_cons]
    exact Nat.dvd_add (Nat.pow_dvd_pow 2 (by have := h y (by simp); omega)) (ks_dvd hx l (fun z hz => h z (by simp [hz])))

theorem sp_fits : ∀ l : List Nat, (∀ x ∈ l, x ≤ 8) → (l.Pairwise fun x y => y ≤ x) → ks l ≤ 256 →
    (∀ p ∈ sp l, p.2 ≤ 8 ∧ 256 - ks l ≤ p.1 ∧ p.1 + 2 ^ (8 - p.2) ≤ 256 ∧ 2 ^ (8 - p.2) ∣ p.1) ∧ (sp l).Pairwise fun p q => p.1 + 2 ^ (8 - p.2) ≤ q.1
  | [], _, _, _ => ⟨fun p hp => (by cases hp), List.Pairwise.nil⟩
  | x :: l, h, hp, hk => by
    rw [List.pairwise_cons] at hp
    have hx := h x (by simp)
    rw [ks_cons] at hk
    have hpos : 0 < 2 ^ (8 - x) := Nat.pow_pos (by omega)
    obtain ⟨h1, h2⟩ := sp_fits l (fun y hy => h y (by simp [hy])) hp.2 (by omega)
    refine ⟨?_, ?_⟩
    · intro p hp'
      rcases List.mem_cons.1 hp' with rfl | hp'
      · refine ⟨hx, Nat.le_refl _, ?_, ?_⟩
        · simp only [ks_cons]; omega
        · have d1 : 2 ^ (8 - x) ∣ 256 := Nat.pow_dvd_pow 2 (show 8 - x ≤ 8 by omega)
          have d2 : 2 ^ (8 - x) ∣ ks (x :: l) := ks_dvd hx (x :: l) (fun y hy => by
            rcases List.mem_cons.1 hy with rfl | hy
            · exact Nat.le_refl _
            · exact hp.1 y hy)
          exact Nat.dvd_sub d1 d2
      · obtain ⟨k1, k2, k3, k4⟩ := h1 p hp'
        refine ⟨k1, ?_, k3, k4⟩
        rw [ks_cons]
        exact Nat.le_trans (Nat.sub_le_sub_left (Nat.le_add_left _ _) _) k2
    · refine List.Pairwise.cons ?_ h2
      intro q hq
      obtain ⟨_, k2, _⟩ := h1 q hq
      simp only [ks_cons]
      omega

theorem sp_place {l : List Nat} (hne : l ≠ []) (h8 : ∀ x ∈ l, x ≤ 8) (hp : l.Pairwise fun x y => y ≤ x) (hk : ks l ≤ 256) : ∃ t, TT l.length t ∧ ∀ v, dot v t ≤ dot v l := by
  obtain ⟨h1, h2⟩ := sp_fits l h8 hp hk
  have hlen : (sp l).length = l.length := by have := congrArg List.length (sp_len l); simpa using this
  obtain ⟨t, k1, k2⟩ := place0 (P := sp l) (by intro h; rw [h] at hlen; exact hne (List.eq_nil_of_length_eq_zero hlen.symm))
    ⟨fun p hp => (h1 p hp).1, fun p hp => Nat.zero_le _, fun p hp => by have := (h1 p hp).2.2.1; omega, fun p hp => (h1 p hp).2.2.2, h2⟩
  refine ⟨t, by rw [← hlen]; exact k1, fun v => ?_⟩
  have := k2.dot (v := v)
  rwa [sp_len] at this

/-- One more length goes where it belongs, and that costs no more. -/
theorem insert_down : ∀ (ws l : List Nat) (w x : Nat), l.length = ws.length → (w :: ws).Pairwise (· ≤ ·) → (l.Pairwise fun x y => y ≤ x) →
    ∃ r, r.Perm (x :: l) ∧ (r.Pairwise fun x y => y ≤ x) ∧ dot (w :: ws) r ≤ dot (w :: ws) (x :: l)
  | [], [], w, x, _, _, _ => ⟨[x], List.Perm.refl _, by simp, Nat.le_refl _⟩
  | [], _ :: _, _, _, h, _, _ => by simp at h
  | _ :: _, [], _, _, h, _, _ => by simp at h
  | w1 :: ws, y :: m, w, x, hl, hw, hm => by
    by_cases hxy : y ≤ x
    · refine ⟨x :: y :: m, List.Perm.refl _, ?_, Nat.le_refl _⟩
      refine List.Pairwise.cons ?_ hm
      intro z hz
      rcases List.mem_cons.1 hz with rfl | hz
      · exact hxy
      · have := (List.pairwise_cons.1 hm).1 z hz; omega
    · rw [List.pairwise_cons] at hw hm
      obtain ⟨r, h1, h2, h3⟩ := insert_down ws m w1 x (by simpa using hl) hw.2 hm.2
      refine ⟨y :: r, ?_, ?_, ?_⟩
      · exact (h1.cons y).trans (List.Perm.swap x y m)
      · refine List.Pairwise.cons ?_ h2
        intro z hz
        rcases List.mem_cons.1 (h1.mem_iff.1 hz) with rfl | hz
        · omega
        · exact hm.1 z hz
      · have hw1 := hw.1 w1 (by simp)
        simp only [dot_cons] at h3 ⊢
        obtain ⟨e, rfl⟩ : ∃ e, w1 = w + e := ⟨w1 - w, by omega⟩
        obtain ⟨u, rfl⟩ : ∃ u, y = x + u := ⟨y - x, by omega⟩
        rw [Nat.mul_add, Nat.add_mul w e (x + u), Nat.mul_add w, Nat.mul_add e]
        rw [Nat.add_mul w e x] at h3
        have := Nat.zero_le (e * u)
        omega

theorem fall : ∀ (ws l : List Nat), l.length = ws.length → ws.Pairwise (· ≤ ·) → ∃ r, r.Perm l ∧ (r.Pairwise fun x y => y ≤ x) ∧ dot ws r ≤ dot ws l
  | [], [], _, _ => ⟨[], List.Perm.refl _, List.Pairwise.nil, Nat.le_refl _⟩
  | [], _ :: _, h, _ => by simp at h
  | _ :: _, [], h, _ => by simp at h
  | w :: ws, x :: l, h, hw => by
    obtain ⟨r, h1, h2, h3⟩ := fall ws l (by simpa using h) (List.pairwise_cons.1 hw).2
    obtain ⟨q, k1, k2, k3⟩ := insert_down ws r w x (by rw [h1.length_eq]; simpa using h) hw h2
    refine ⟨q, k1.trans (h1.cons x), k2, ?_⟩
    simp only [dot_cons] at k3 ⊢
    omega

theorem ks_perm {a b : List Nat} (h : a.Perm b) : ks a = ks b := (h.map _).sum_nat

/-- What Huffman tells of the weights, as lists. -/
theorem best_list {v l : List Nat} (h8 : v.length ≤ 8) (h : Best (wof (lz v)) v.length l) : l.length = v.length ∧ (∀ x ∈ l, x < v.length) ∧ ks l ≤ 256 ∧ tc (wof (lz v)) (pr v.length l) = dot v l ∧ ∀ t, TT v.length t → dot v l ≤ dot v t := by
  have hl := h.len
  have hlt := h.lt
  have hc : tc (wof (lz v)) (pr v.length l) = dot v l := by rw [tc_pr, cs_dot hl]
  have hr : ∀ m : List Nat, (List.range m.length).map (fun i => m.getD i 0) = m := by
    intro m
    apply List.ext_getElem?
    intro i
    rw [List.getElem?_map]
    rcases Nat.lt_or_ge i m.length with h | h
    · rw [List.getElem?_range h, List.getElem?_eq_getElem h]
      simp [List.getD_eq_getElem?_getD, h]
    · rw [List.getElem?_eq_none (by simpa using h), List.getElem?_eq_none h]
      rfl
  refine ⟨hl, hlt, ?_, hc, ?_⟩
  · have := h.kraft h8
    have e : pk (pr v.length l) = ks l := by
      unfold pk pr ks
      rw [List.map_map, ← hl]
      have e2 : ((fun p : Nat × Nat => 2 ^ (8 - p.2)) ∘ fun i => (i, l.getD i 0)) = (fun x => 2 ^ (8 - x)) ∘ (fun i => l.getD i 0) := rfl
      rw [e2, ← List.map_map, hr l]
    omega
  · intro t ht
    have hz : ∀ (v t : List Nat), t.length = v.length → (v.zip t).map (·.1) = v ∧ pc (v.zip t) = dot v t ∧ pk (v.zip t) = ks t ∧ ∀ p ∈ v.zip t, p.2 ∈ t := by
      intro v
      induction v with
      | nil => intro t ht; cases t <;> simp_all
      | cons w v ih =>
        intro t ht
        cases t with
        | nil => simp at ht
        | cons x t =>
          obtain ⟨h1, h2, h3, h4⟩ := ih t (by simpa using ht)
          refine ⟨by simp [h1], by simp [h2], by simp [h3], ?_⟩
          intro p hp
          simp only [List.zip_cons_cons, List.mem_cons] at hp
          rcases hp with rfl | hp
          · simp
          · simp [h4 p hp]
    obtain ⟨h1, h2, h3, h4⟩ := hz v t ht.1
    have hlb := h.lb
    rw [hc] at hlb
    have e : (List.range v.length).map (wof (lz v)) = v := by
      rw [show wof (lz v) = fun i => v.getD i 0 from wof_nat v]
      exact hr v
    rw [e] at hlb
    have := hlb (v.zip t) (by rw [h1]) ⟨fun p hp => by have := ht.le _ (h4 p hp); omega, by
      rw [h3]
      rcases Nat.eq_zero_or_pos v.length with h0 | h0
      · rw [h0] at ht
        rw [ht.zero]
        simp
      · rw [(ht.at h0).kraft (fun x hx => by have := ht.le x hx; omega)]
        exact Nat.le_refl _⟩
    rw [h2] at this
    exact this

/-- Gilbert, Moore. -/
theorem between {v a l : List Nat} (h8 : v.length ≤ 8) (ha : Opt v a) (h : Best (wof (lz v)) v.length l) : dot v l ≤ dot v a ∧ dot v a ≤ dot v l + v.sum := by
  obtain ⟨h1, h2, h3, _, h5⟩ := best_list h8 h
  refine ⟨h5 a ha.1, ?_⟩
  rcases Nat.eq_zero_or_pos v.length with h0 | h0
  · have hv : v = [] := List.eq_nil_of_length_eq_zero h0
    subst hv
    simp
  · obtain ⟨t, k1, k2⟩ := gm_place (l := l) (by rintro rfl; simp at h1; omega) (fun x hx => by have := h2 x hx; omega) h3
    rw [h1] at k1
    have := ha.2 t k1
    have k3 := k2 v
    rw [dot_up _ _ h1] at k3
    unfold Le at this
    omega

/-- Garsia, Wachs, of weights that rise. -/
theorem sorted {v a l : List Nat} (h8 : v.length ≤ 8) (ha : Opt v a) (h : Best (wof (lz v)) v.length l) (hv : v.Pairwise (· ≤ ·)) : dot v a = dot v l := by
  obtain ⟨h1, h2, h3, _, h5⟩ := best_list h8 h
  apply Nat.le_antisymm
  · rcases Nat.eq_zero_or_pos v.length with h0 | h0
    · have hv : v = [] := List.eq_nil_of_length_eq_zero h0
      subst hv
      simp
    · obtain ⟨r, q1, q2, q3⟩ := fall v l h1 hv
      have hrl := q1.length_eq
      obtain ⟨t, k1, k2⟩ := sp_place (l := r) (by rintro rfl; simp at hrl; omega) (fun x hx => by have := h2 x (q1.mem_iff.1 hx); omega) q2 (by rw [ks_perm q1]; exact h3)
      rw [hrl, h1] at k1
      have := ha.2 t k1
      have k3 := k2 v
      unfold Le at this
      omega
  · exact h5 a ha.1

/-- Who weighs something costs something. -/
theorem some_cost {w : Nat} {v a : List Nat} (ha : Opt (w :: v) a) (hv : v ≠ []) : w ≤ dot (w :: v) a := by
  have hl := ha.1.1
  have hvp : 0 < v.length := by
    cases v with
    | nil => exact absurd rfl hv
    | cons _ _ => simp
  obtain ⟨k, x, y, h1, h2, h3, h4, h5⟩ := ha.1.split (by simp; omega)
  have hx := (h3.at h1).pos
  cases x with
  | nil => simp at hx
  | cons x0 x =>
    rw [h5]
    simp only [List.cons_append, up1_cons, dot_cons]
    have : w * 1 ≤ w * (x0 + 1) := Nat.mul_le_mul_left _ (by omega)
    omega

end Go.Proofs.Ytakggfogoobdnaa
