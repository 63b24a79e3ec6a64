/-
  Places among the turns; the text found again of the last bytes and its place, in two ways, in plain mathematics.
-/
import Derived.Test.YtkccdhidmihekaaBw
import Derived.Test.YtkccdhidmihekaaMtf
namespace Go.Proofs.Ytkccdhidmihekaa

theorem countP_le_of {α : Type} {L : List α} {p q : α → Bool} (h : ∀ x ∈ L, p x = true → q x = true) : L.countP p ≤ L.countP q := by
  induction L with
  | nil => simp
  | cons a L ih =>
    rw [List.countP_cons, List.countP_cons]
    have h1 := ih (fun x hx => h x (by simp [hx]))
    have h2 := h a (by simp)
    cases hp : p a <;> cases hq : q a <;> simp_all <;> omega
theorem countP_lt_of {α : Type} {L : List α} {p q : α → Bool} (h : ∀ x ∈ L, p x = true → q x = true) {y : α} (hy : y ∈ L) (h1 : q y = true) (h2 : p y = false) : L.countP p < L.countP q := by
  induction L with
  | nil => simp at hy
  | cons a L ih =>
    rw [List.countP_cons, List.countP_cons]
    rcases List.mem_cons.1 hy with rfl | hy
    · have h3 := countP_le_of (L := L) (fun x hx => h x (by simp [hx]))
      rw [h1, h2]
      simp
      omega
    · have h3 := ih (fun x hx => h x (by simp [hx])) hy
      have h4 := h a (by simp)
      cases hp : p a <;> cases hq : q a <;> simp_all <;> omega

/-- How many turns are ahead of one. -/
def ky (t : List Int) (x : Int) : Int := ((List.range t.length).countP (fun j => ah (rot t j) (rot t x.toNat)) : Nat)

theorem ky_lt_of {t : List Int} {i j : Nat} (hi : i < t.length) (h : ah (rot t i) (rot t j) = true) : ky t (i : Int) < ky t (j : Int) := by
  unfold ky
  have := countP_lt_of (L := List.range t.length) (p := fun k => ah (rot t k) (rot t i)) (q := fun k => ah (rot t k) (rot t j)) (fun x _ hx => ah_trans hx h) (y := i) (List.mem_range.2 hi) h (ah_irrefl _)
  simpa using this
theorem ky_eq_of {t : List Int} {i j : Nat} (h : rot t i = rot t j) : ky t (i : Int) = ky t (j : Int) := by
  unfold ky
  simp [h]
theorem ky_lt {t : List Int} {i j : Nat} (hi : i < t.length) (hj : j < t.length) : ky t (i : Int) < ky t (j : Int) ↔ ah (rot t i) (rot t j) = true := by
  constructor
  · intro h
    rcases ah_tri (rot t i) (rot t j) with h1 | h1 | h1
    · have := ky_eq_of h1
      omega
    · exact h1
    · have := ky_lt_of hj h1
      omega
  · exact ky_lt_of hi
theorem ky_eq {t : List Int} {i j : Nat} (hi : i < t.length) (hj : j < t.length) : ky t (i : Int) = ky t (j : Int) ↔ rot t i = rot t j := by
  constructor
  · intro h
    rcases ah_tri (rot t i) (rot t j) with h1 | h1 | h1
    · exact h1
    · have := ky_lt_of hi h1
      omega
    · have := ky_lt_of hj h1
      omega
  · exact ky_eq_of

/-- The place of a turn: how many come ahead of it. -/
def rk (t : List Int) (i : Nat) : Nat := (List.range t.length).countP (fun j => ah (rot t j) (rot t i) || (rot t j == rot t i && decide (j < i)))

theorem idx_sorted {key : Int → Int} {S : List Int} (hs : S.Pairwise (LexI key)) {c i : Int} (hc : c ∈ S) (hi : i ∈ S) : S.idxOf c < S.idxOf i ↔ LexI key c i := by
  have h1 := List.idxOf_lt_length_iff.2 hc
  have h2 := List.idxOf_lt_length_iff.2 hi
  have e1 : S[S.idxOf c] = c := List.getElem_idxOf h1
  have e2 : S[S.idxOf i] = i := List.getElem_idxOf h2
  have hp := List.pairwise_iff_getElem.1 hs
  constructor
  · intro h
    have := hp _ _ h1 h2 h
    rw [e1, e2] at this
    exact this
  · intro h
    rcases Nat.lt_trichotomy (S.idxOf c) (S.idxOf i) with h3 | h3 | h3
    · exact h3
    · have : c = i := by
        rw [← e1, ← e2]
        simp only [h3]
      subst this
      exact absurd h h.asymm
    · have := hp _ _ h2 h1 h3
      rw [e1, e2] at this
      exact absurd h this.asymm

theorem upI_nodup (n : Nat) : (upI n).Nodup := (upI_inc n).imp (fun h => by omega)

/-- In a sorted list each number stands at the place that tells how many come ahead of it. -/
theorem idx_count {key : Int → Int} {n : Nat} {S : List Int} (hp : S.Perm (upI n)) (hs : S.Pairwise (LexI key)) {i : Nat} (hi : i < n) : ∀ (d : Nat → Bool), (∀ j, j < n → (d j = true ↔ LexI key (j : Int) (i : Int))) → S.idxOf (i : Int) = (List.range n).countP d := by
  intro d hd
  have hm : (i : Int) ∈ S := hp.symm.subset (mem_upI.2 (by omega))
  have hnd : S.Nodup := hp.nodup_iff.2 (upI_nodup n)
  have h1 := countP_idx hnd (S.idxOf (i : Int)) (Nat.le_of_lt (List.idxOf_lt_length_iff.2 hm))
  rw [← h1, hp.countP_eq]
  unfold upI
  rw [List.countP_map]
  apply List.countP_congr
  intro j hj
  rw [List.mem_range] at hj
  rw [hd j hj]
  have := idx_sorted hs (c := (j : Int)) (hp.symm.subset (mem_upI.2 (by omega))) hm
  show decide (S.idxOf (j : Int) < S.idxOf (i : Int)) = true ↔ _
  rw [decide_eq_true_iff]
  exact this

theorem idx_rk {t S : List Int} (hp : S.Perm (upI t.length)) (hs : S.Pairwise (LexI (ky t))) {i : Nat} (hi : i < t.length) : S.idxOf (i : Int) = rk t i := by
  refine idx_count hp hs hi _ (fun j hj => ?_)
  unfold LexI
  rw [ky_lt hj hi, ky_eq hj hi]
  simp

/-- Sorted by their keys, the turns are in order. -/
theorem sorted_RR {t S : List Int} (hp : S.Perm (upI t.length)) (hs : S.Pairwise (LexI (ky t))) : S.map (fun x => rot t x.toNat) = RR t := by
  refine srtd_unique ?_ (srtL_srtd _) ?_
  · unfold Srtd
    rw [List.pairwise_map]
    refine hs.imp_of_mem ?_
    intro a b ha hb hab
    have h1 := mem_upI.1 (hp.subset ha)
    have h2 := mem_upI.1 (hp.subset hb)
    obtain ⟨i, rfl⟩ := Int.eq_ofNat_of_zero_le h1.1
    obtain ⟨j, rfl⟩ := Int.eq_ofNat_of_zero_le h2.1
    simp only [Int.toNat_natCast]
    rcases hab with h | h
    · exact le_of_ah ((ky_lt (by omega) (by omega)).1 h)
    · rw [(ky_eq (by omega) (by omega)).1 h.1]
      exact le_refl _
  · have h1 : (S.map (fun x => rot t x.toNat)).Perm ((upI t.length).map (fun x => rot t x.toNat)) := hp.map _
    refine h1.trans ?_
    have e : (upI t.length).map (fun x => rot t x.toNat) = rots t := by
      unfold upI rots
      rw [List.map_map]
      rfl
    rw [e]
    exact (srtL_perm _).symm

theorem sorted_tl {t S : List Int} (hp : S.Perm (upI t.length)) (hs : S.Pairwise (LexI (ky t))) : S.map (fun x => t.getD ((x.toNat + t.length - 1) % t.length) 0) = tl t := by
  rw [tl, ← sorted_RR hp hs, List.map_map]
  apply List.map_congr_left
  intro x hx
  have h1 := mem_upI.1 (hp.subset hx)
  show _ = lst (rot t x.toNat)
  rw [lst_rot (by omega)]

theorem exists_sorted (key : Int → Int) (n : Nat) : ∃ S : List Int, S.Perm (upI n) ∧ S.Pairwise (LexI key) := by
  refine ⟨(upI n).mergeSort (fun a b => decide (key a < key b ∨ (key a = key b ∧ a ≤ b))), List.mergeSort_perm _ _, ?_⟩
  have h1 := List.pairwise_mergeSort (le := fun a b => decide (key a < key b ∨ (key a = key b ∧ a ≤ b))) (fun a b c x y => by simp at x y ⊢; omega) (fun a b => by simp; omega) (upI n)
  have h2 : ((upI n).mergeSort (fun a b => decide (key a < key b ∨ (key a = key b ∧ a ≤ b)))).Nodup := (List.mergeSort_perm _ _).nodup_iff.2 (upI_nodup n)
  refine (List.pairwise_and_iff.2 ⟨h1, h2⟩).imp ?_
  rintro a b ⟨h3, h4⟩
  simp at h3
  unfold LexI
  omega

theorem rk_lt {t : List Int} {i : Nat} (hi : i < t.length) : rk t i < t.length := by
  obtain ⟨S, hp, hs⟩ := exists_sorted (ky t) t.length
  rw [← idx_rk hp hs hi]
  have : S.idxOf (i : Int) < S.length := List.idxOf_lt_length_iff.2 (hp.symm.subset (mem_upI.2 (by omega)))
  rw [hp.length_eq, upI_length] at this
  exact this

/-- Each turn's last byte laid at its place: the last bytes in order. -/
theorem laid_tl {t O : List Int} (hl : O.length = t.length) (h : ∀ i, i < t.length → O.getD (rk t i) 0 = lst (rot t i)) : O = tl t := by
  obtain ⟨S, hp, hs⟩ := exists_sorted (ky t) t.length
  have hSl : S.length = t.length := by rw [hp.length_eq, upI_length]
  apply ext_getD (by rw [hl, tl_length])
  intro p hpn
  have hpS : p < S.length := by omega
  have hm := mem_upI.1 (hp.subset (List.getElem_mem hpS))
  obtain ⟨i, hi⟩ := Int.eq_ofNat_of_zero_le hm.1
  have hrk : rk t i = p := by
    rw [← idx_rk hp hs (by omega), ← hi]
    exact (hp.nodup_iff.2 (upI_nodup _)).idxOf_getElem p hpS
  have h1 := h i (by omega)
  rw [hrk] at h1
  rw [h1, tl, ← sorted_RR hp hs, List.map_map]
  simp [List.getD_eq_getElem?_getD, hpS, hi]

/-- The text itself among its turns. -/
theorem RR_self {t : List Int} (h0 : 0 < t.length) : (RR t).getD (rk t 0) [] = t := by
  obtain ⟨S, hp, hs⟩ := exists_sorted (ky t) t.length
  have hm : ((0 : Nat) : Int) ∈ S := hp.symm.subset (mem_upI.2 (by omega))
  have h1 := List.idxOf_lt_length_iff.2 hm
  have h2 := idx_rk hp hs h0
  rw [← h2, ← sorted_RR hp hs]
  have e : S[S.idxOf ((0 : Nat) : Int)] = ((0 : Nat) : Int) := List.getElem_idxOf h1
  rw [List.getD_eq_getElem?_getD, List.getElem?_map, List.getElem?_eq_getElem h1, e]
  simp [rot_zero]

/-- The order in which the bytes stand, those that are the same as they stand. -/
def Nx (L Nn : List Int) : Prop := Nn.Perm (upI L.length) ∧ Nn.Pairwise (LexI (fun x => L.getD x.toNat 0))

/-- One change leads from the turn at a place to that at the next one. -/
theorem next_turn {t Nn : List Int} (h0 : 0 < t.length) (hN : Nx (tl t) Nn) {p : Nat} (hp : p < t.length) : (Nn.getD p 0).toNat < t.length ∧ (RR t).getD (Nn.getD p 0).toNat [] = rotl ((RR t).getD p []) := by
  obtain ⟨h1, h2⟩ := hN
  rw [tl_length] at h1
  have hNl : Nn.length = t.length := by rw [h1.length_eq, upI_length]
  have hRl := RR_length t
  have hlen : ∀ k, k < t.length → ((RR t).getD k []).length = t.length := fun k hk => by
    have hk' : k < (RR t).length := by omega
    rw [List.getD_eq_getElem?_getD, List.getElem?_eq_getElem hk', Option.getD_some]
    exact RR_len (List.getElem_mem hk')
  have htl : ∀ k, k < t.length → (tl t).getD k 0 = lst ((RR t).getD k []) := fun k hk => by
    simp [tl, List.getD_eq_getElem?_getD, show k < (RR t).length by omega]
  have hM : Nn.map (fun x => rotr ((RR t).getD x.toNat [])) = RR t := by
    refine srtd_unique ?_ (srtL_srtd _) ?_
    · unfold Srtd
      rw [List.pairwise_map]
      refine h2.imp_of_mem ?_
      intro a b ha hb hab
      have ha' := mem_upI.1 (h1.subset ha)
      have hb' := mem_upI.1 (h1.subset hb)
      have la := hlen a.toNat (by omega)
      have lb := hlen b.toNat (by omega)
      have sa := split_last (s := (RR t).getD a.toNat []) (by omega)
      have sb := split_last (s := (RR t).getD b.toNat []) (by omega)
      unfold LexI at hab
      simp only at hab
      rw [htl _ (by omega), htl _ (by omega)] at hab
      have hs : a < b → le ((RR t).getD a.toNat []) ((RR t).getD b.toNat []) = true := fun hlt => by
        have hka : a.toNat < (RR t).length := by omega
        have hkb : b.toNat < (RR t).length := by omega
        rw [List.getD_eq_getElem?_getD, List.getElem?_eq_getElem hka, List.getD_eq_getElem?_getD, List.getElem?_eq_getElem hkb]
        exact List.pairwise_iff_getElem.1 (srtL_srtd (rots t)) _ _ hka hkb (by omega)
      generalize (RR t).getD a.toNat [] = u at *
      generalize (RR t).getD b.toNat [] = v at *
      unfold rotr le
      rw [ah]
      rcases hab with h | ⟨h, hlt⟩
      · rw [if_neg (by omega)]
        simp
        omega
      · rw [if_pos h.symm]
        have h5 := hs hlt
        unfold le at h5
        rw [sa, sb, h, ah_snoc (by rw [List.length_dropLast, List.length_dropLast, la, lb])] at h5
        exact h5
    · have h3 : (Nn.map (fun x => rotr ((RR t).getD x.toNat []))).Perm ((upI t.length).map (fun x => rotr ((RR t).getD x.toNat []))) := h1.map _
      refine h3.trans ?_
      have e : (upI t.length).map (fun x => rotr ((RR t).getD x.toNat [])) = (RR t).map rotr := by
        apply List.ext_getElem
        · simp [upI, hRl]
        · intro i h4 h5
          have h6 : i < (RR t).length := by simpa using h5
          simp [upI, h6]
      rw [e]
      exact RR_rotr h0
  have hpN : p < Nn.length := by omega
  have hm := mem_upI.1 (h1.subset (List.getElem_mem hpN))
  have e : Nn.getD p 0 = Nn[p] := by simp [List.getD_eq_getElem?_getD, hpN]
  rw [e]
  refine ⟨by omega, ?_⟩
  have h7 : (RR t).getD p [] = rotr ((RR t).getD Nn[p].toNat []) := by
    conv => lhs; rw [← hM]
    simp [List.getD_eq_getElem?_getD, hpN]
  rw [h7, rotl_rotr]
  rw [hlen _ (by omega)]
  exact h0

/-- The places that follow one another. -/
def pl (Nn : List Int) (at_ : Nat) : Nat → Nat
  | 0 => at_
  | i + 1 => (Nn.getD (pl Nn at_ i) 0).toNat
/-- The bytes there. -/
def fol (L Nn : List Int) (at_ : Nat) : List Int := (List.range L.length).map (fun i => L.getD (pl Nn at_ (i + 1)) 0)
theorem fol_length (L Nn : List Int) (a : Nat) : (fol L Nn a).length = L.length := by simp [fol]

theorem pl_lt {L Nn : List Int} {a : Nat} (hN : Nx L Nn) (ha : a < L.length) : ∀ i, pl Nn a i < L.length
  | 0 => ha
  | i + 1 => by
    have ih := pl_lt hN ha i
    have hl : Nn.length = L.length := by rw [hN.1.length_eq, upI_length]
    have hm := mem_upI.1 (hN.1.subset (List.getElem_mem (show pl Nn a i < Nn.length by omega)))
    have e : Nn.getD (pl Nn a i) 0 = Nn[pl Nn a i]'(by omega) := by simp [List.getD_eq_getElem?_getD, show pl Nn a i < Nn.length by omega]
    rw [pl, e]
    omega

theorem rotl_rot {t : List Int} {i : Nat} (hi : i < t.length) : rotl (rot t i) = rot t (i + 1) := by
  have h1 : rotl (rot t i) = rot (rot t i) 1 := rfl
  rw [h1, rot_rot (by omega) (by omega) (by omega)]
  rcases Nat.lt_or_ge (i + 1) t.length with h | h
  · rw [Nat.mod_eq_of_lt h]
  · have : i + 1 = t.length := by omega
    rw [this, Nat.mod_self, rot_all, rot_zero]

/-- Of the last bytes of its turns, and its place, the text comes again. -/
theorem fol_back {t Nn : List Int} (h0 : 0 < t.length) (hN : Nx (tl t) Nn) : fol (tl t) Nn (rk t 0) = t := by
  have hR : ∀ i, i ≤ t.length → pl Nn (rk t 0) i < t.length ∧ (RR t).getD (pl Nn (rk t 0) i) [] = rot t i := by
    intro i
    induction i with
    | zero => intro _; exact ⟨rk_lt h0, by rw [pl, RR_self h0, rot_zero]⟩
    | succ i ih =>
      intro hi
      obtain ⟨h1, h2⟩ := ih (by omega)
      have h3 := next_turn h0 hN h1
      rw [pl]
      exact ⟨h3.1, by rw [h3.2, h2, rotl_rot (by omega)]⟩
  apply ext_getD (by rw [fol_length, tl_length])
  intro i hi
  rw [fol_length, tl_length] at hi
  obtain ⟨h1, h2⟩ := hR (i + 1) (by omega)
  have e : (fol (tl t) Nn (rk t 0)).getD i 0 = (tl t).getD (pl Nn (rk t 0) (i + 1)) 0 := by
    simp [fol, List.getD_eq_getElem?_getD, tl_length, hi]
  have e2 : (tl t).getD (pl Nn (rk t 0) (i + 1)) 0 = lst ((RR t).getD (pl Nn (rk t 0) (i + 1)) []) := by
    have := RR_length t
    simp [tl, List.getD_eq_getElem?_getD, show pl Nn (rk t 0) (i + 1) < (RR t).length by omega]
  rw [e, e2, h2]
  unfold lst
  rw [rot_length, rot_at (by omega) (by omega)]
  congr 1
  rw [show i + 1 + (t.length - 1) = i + t.length by omega, Nat.add_mod_right, Nat.mod_eq_of_lt hi]

/-- The rows: the last bytes put ahead, and put in order, again and again. -/
def urows (L : List Int) : Nat → List (List Int)
  | 0 => List.replicate L.length []
  | k + 1 => srtL (List.zipWith (· :: ·) L (urows L k))
theorem urows_length (L : List Int) : ∀ k, (urows L k).length = L.length
  | 0 => by simp [urows]
  | k + 1 => by
    rw [urows, (srtL_perm _).length_eq, List.length_zipWith, urows_length L k]
    omega
theorem urows_each (L : List Int) : ∀ k, ∀ r ∈ urows L k, r.length = k
  | 0, r, h => by
    rw [urows, List.mem_replicate] at h
    rw [h.2]
    rfl
  | k + 1, r, h => by
    have h1 := (srtL_perm _).subset h
    obtain ⟨i, hi, rfl⟩ := List.getElem_of_mem h1
    rw [List.getElem_zipWith, List.length_cons, urows_each L k _ (List.getElem_mem _)]

theorem urows_tl {t : List Int} (h0 : 0 < t.length) : ∀ k, k ≤ t.length → urows (tl t) k = (RR t).map (·.take k)
  | 0, _ => by
    rw [urows, tl_length, ← RR_length t]
    apply List.ext_getElem
    · simp
    · intro i h1 h2
      simp
  | k + 1, hk => by
    rw [urows, urows_tl h0 k (by omega)]
    symm
    apply srtL_eq
    · unfold Srtd
      rw [List.pairwise_map]
      refine (srtL_srtd (rots t)).imp_of_mem ?_
      intro a b ha hb hab
      exact le_take _ (by rw [RR_len ha, RR_len hb]) hab
    · have e : List.zipWith (· :: ·) (tl t) ((RR t).map (·.take k)) = ((RR t).map rotr).map (·.take (k + 1)) := by
        apply List.ext_getElem
        · simp [tl]
        · intro i h1 h2
          have h3 : i < (RR t).length := by simpa using h2
          have h4 := RR_len (List.getElem_mem h3)
          simp only [List.getElem_zipWith, List.getElem_map, tl]
          unfold rotr
          rw [List.take_succ_cons]
          congr 1
          rw [List.dropLast_eq_take, List.take_take, Nat.min_eq_left (by omega)]
      rw [e]
      exact ((RR_rotr h0).map _).symm

/-- The row at a place. -/
def un (L : List Int) (a : Nat) : List Int := (urows L L.length).getD a []
theorem un_length {L : List Int} {a : Nat} (ha : a < L.length) : (un L a).length = L.length := by
  have h1 : a < (urows L L.length).length := by rw [urows_length]; exact ha
  unfold un
  rw [List.getD_eq_getElem?_getD, List.getElem?_eq_getElem h1, Option.getD_some]
  exact urows_each L _ _ (List.getElem_mem h1)
theorem un_back {t : List Int} (h0 : 0 < t.length) : un (tl t) (rk t 0) = t := by
  unfold un
  rw [tl_length, urows_tl h0 _ (Nat.le_refl _)]
  have h1 := RR_self h0
  have h2 : rk t 0 < (RR t).length := by rw [RR_length]; exact rk_lt h0
  rw [List.getD_eq_getElem?_getD, List.getElem?_map, List.getElem?_eq_getElem h2]
  rw [List.getD_eq_getElem?_getD, List.getElem?_eq_getElem h2] at h1
  simp only [Option.getD_some, Option.map_some] at h1 ⊢
  rw [h1, List.take_of_length_le (Nat.le_refl _)]

/-- Both ways find the same text, or none. -/
theorem both_ways {L Nn : List Int} {a : Nat} (h0 : 0 < L.length) (ha : a < L.length) (hN : Nx L Nn) :
    ((tl (fol L Nn a) = L ∧ rk (fol L Nn a) 0 = a) ↔ (tl (un L a) = L ∧ rk (un L a) 0 = a)) ∧ ((tl (fol L Nn a) = L ∧ rk (fol L Nn a) 0 = a) → fol L Nn a = un L a) := by
  have hf := fol_length L Nn a
  have hu := un_length ha
  have key1 : (tl (fol L Nn a) = L ∧ rk (fol L Nn a) 0 = a) → fol L Nn a = un L a := by
    rintro ⟨h1, h2⟩
    have := un_back (t := fol L Nn a) (by omega)
    rw [h1, h2] at this
    exact this.symm
  have key2 : (tl (un L a) = L ∧ rk (un L a) 0 = a) → fol L Nn a = un L a := by
    rintro ⟨h1, h2⟩
    have := fol_back (t := un L a) (Nn := Nn) (by omega) (by rw [h1]; exact hN)
    rw [h1, h2] at this
    exact this
  refine ⟨⟨fun h => ?_, fun h => ?_⟩, key1⟩
  · rw [← key1 h]; exact h
  · rw [key2 h]; exact h

end Go.Proofs.Ytkccdhidmihekaa
