/-
  What the program has at each byte of the text: the phrases so far, what was read of the next one, and its number.
-/
import Derived.Test.YtjgheojfdkfmkaaKl
import Derived.Test.YtjgheojfdkfmkaaPlc
namespace Go.Proofs.Ytjgheojfdkfmkaa

theorem tx_length (l : List (Int × Int)) : (tx l).length = l.length + 1 := by
  unfold tx
  rw [txs_length]
  simp
  omega

theorem tx_append (l : List (Int × Int)) (x : Int × Int) : tx (l ++ [x]) = tx l ++ [(tx l).getD x.1.toNat [] ++ [x.2]] := txs_append _ _ _

theorem tx_zero (l : List (Int × Int)) : (tx l)[0]? = some [] := by
  obtain ⟨S, hS⟩ := txs_pre [[]] l
  unfold tx
  rw [hS]
  rfl

theorem nil_mem_tx (l : List (Int × Int)) : [] ∈ tx l := List.mem_of_getElem? (tx_zero l)

theorem idxOf_nil_tx (l : List (Int × Int)) : (tx l).idxOf [] = 0 := idxOf_first _ _ 0 (tx_zero l) (fun i hi => by omega)

theorem Vd.append {l : List (Int × Int)} (h : Vd l) {x : Int × Int} (h0 : 0 ≤ x.1) (h1 : x.1 ≤ l.length) : Vd (l ++ [x]) := by
  intro i hi
  by_cases hl : i < l.length
  · rw [List.getElem_append_left hl]
    exact h i hl
  · have hi' : i = l.length := by simp at hi; omega
    subst hi'
    simp
    omega

theorem getD_append_lt {K S : List (List Int)} {m : Nat} (h : m < K.length) : (K ++ S).getD m [] = K.getD m [] := by
  rw [List.getD_eq_getElem?_getD, List.getElem?_append_left h, ← List.getD_eq_getElem?_getD]

theorem Vd.init {l : List (Int × Int)} {x : Int × Int} (h : Vd (l ++ [x])) : Vd l ∧ 0 ≤ x.1 ∧ x.1 ≤ l.length := by
  refine ⟨fun i hi => ?_, ?_⟩
  · have := h i (by simp; omega)
    rw [List.getElem_append_left hi] at this
    exact this
  · have := h l.length (by simp)
    simpa using this

theorem txs_at : ∀ (l : List (Int × Int)) (K : List (List Int)), (∀ j (hj : j < l.length), l[j].1.toNat < K.length + j) → ∀ j (hj : j < l.length), (txs K l)[K.length + j]? = some ((txs K l).getD l[j].1.toNat [] ++ [l[j].2])
  | [], _, _, j, hj => by simp at hj
  | x :: l, K, hv, 0, _ => by
    have h0 := hv 0 (by simp)
    simp only [List.getElem_cons_zero, Nat.add_zero] at h0 ⊢
    rw [txs]
    obtain ⟨S, hS⟩ := txs_pre (K ++ [K.getD x.1.toNat [] ++ [x.2]]) l
    rw [hS, List.append_assoc, getD_append_lt h0]
    simp
  | x :: l, K, hv, j + 1, hj => by
    have ih := txs_at l (K ++ [K.getD x.1.toNat [] ++ [x.2]]) (fun j hj => by
      have := hv (j + 1) (by simpa using hj)
      simp only [List.getElem_cons_succ] at this
      simp
      omega) j (by simpa using hj)
    rw [txs]
    simp only [List.getElem_cons_succ]
    rw [← ih]
    simp only [List.length_append, List.length_singleton]
    rw [show K.length + 1 + j = K.length + (j + 1) by omega]

/-- The text of each phrase. -/
theorem tx_at (l : List (Int × Int)) (hv : Vd l) (j : Nat) (hj : j < l.length) : (tx l)[j + 1]? = some ((tx l).getD l[j].1.toNat [] ++ [l[j].2]) := by
  have := txs_at l [[]] (fun j hj => by have := hv j hj; simp; omega) j hj
  rw [List.length_singleton, Nat.add_comm 1 j] at this
  exact this

theorem nodup_idx {K : List (List Int)} (h : K.Nodup) {m : Nat} {p : List Int} (hp : K[m]? = some p) : K.idxOf p = m := by
  refine idxOf_first K p m hp (fun i hi he => ?_)
  obtain ⟨hm, e1⟩ := List.getElem?_eq_some_iff.1 hp
  obtain ⟨hi', e2⟩ := List.getElem?_eq_some_iff.1 he
  exact (List.pairwise_iff_getElem.1 h) i m hi' hm hi (by rw [e1, e2])

theorem getD_some {K : List (List Int)} {m : Nat} (h : m < K.length) : K[m]? = some (K.getD m []) := by
  rw [List.getD_eq_getElem?_getD, List.getElem?_eq_getElem h]
  rfl

/-- What was read is a phrase just where it has a number. -/
theorem known_of {l : List (Int × Int)} (hv : Vd l) (hn : (tx l).Nodup) {p : List Int} {b : Int} (h : (p ++ [b]) ∈ tx l) : ((((tx l).idxOf p : Nat) : Int), b) ∈ l := by
  obtain ⟨i, hi, he⟩ := List.getElem_of_mem h
  have hi? : (tx l)[i]? = some (p ++ [b]) := by rw [List.getElem?_eq_getElem hi, he]
  have hL := tx_length l
  cases i with
  | zero =>
    rw [tx_zero] at hi?
    simp at hi?
  | succ j =>
    have hj : j < l.length := by omega
    rw [tx_at l hv j hj] at hi?
    injection hi? with e
    obtain ⟨e1, e2⟩ := List.append_inj' e rfl
    simp only [List.cons.injEq, and_true] at e2
    have hvj := hv j hj
    have e3 := nodup_idx hn (getD_some (K := tx l) (m := l[j].1.toNat) (by omega))
    rw [e1] at e3
    have : l[j] = ((((tx l).idxOf p : Nat) : Int), b) := by
      rw [e3, ← e2]
      refine Prod.ext ?_ rfl
      simp only
      omega
    rw [← this]
    exact List.getElem_mem hj

theorem number_of {l : List (Int × Int)} (hv : Vd l) (hn : (tx l).Nodup) {p : List Int} (hp : p ∈ tx l) {b : Int} (h : ((((tx l).idxOf p : Nat) : Int), b) ∈ l) :
    (p ++ [b]) ∈ tx l ∧ (tx l).idxOf (p ++ [b]) = nm l ((((tx l).idxOf p : Nat) : Int), b) := by
  have hj := List.idxOf_lt_length_of_mem h
  have ha := tx_at l hv _ hj
  rw [List.getElem_idxOf] at ha
  simp only [Int.toNat_natCast] at ha
  rw [getD_idxOf hp] at ha
  refine ⟨List.mem_of_getElem? ha, ?_⟩
  rw [nodup_idx hn ha]
  unfold nm
  rw [if_pos h]

/-- At byte k: the phrases l, and p was read of the next one, whose number is q. -/
structure PI (t : List Int) (k : Nat) (l : List (Int × Int)) (p : List Int) (q : Nat) : Prop where
  out : l ++ pr (tx l) p (t.drop k) = phr t
  mem : p ∈ tx l
  here : q = (tx l).idxOf p
  len : l.length ≤ k
  vd : Vd l
  nd : k < t.length → (tx l).Nodup

theorem PI.start (t : List Int) : PI t 0 [] [] 0 :=
  ⟨by simp [tx, txs, phr], by simp [tx, txs], by simp [tx, txs], Nat.le_refl _, fun i h => by simp at h, fun _ => by simp [tx, txs]⟩

theorem PI.few {t : List Int} {k q : Nat} {l : List (Int × Int)} {p : List Int} (h : PI t k l p q) : q ≤ l.length := by
  have := List.idxOf_lt_length_of_mem h.mem
  rw [tx_length] at this
  rw [h.here]
  omega

theorem drop_at {t : List Int} {k : Nat} (hk : k < t.length) : t.drop k = t.getD k 0 :: t.drop (k + 1) := by
  rw [List.drop_eq_getElem_cons hk]
  simp [List.getD_eq_getElem?_getD, hk]

/-- A known phrase, and it is not the last byte: read on. -/
theorem PI.go {t : List Int} {k q : Nat} {l : List (Int × Int)} {p : List Int} (h : PI t k l p q) (hk : k + 1 < t.length) (hn : 0 < nm l ((q : Int), t.getD k 0)) :
    PI t (k + 1) l (p ++ [t.getD k 0]) (nm l ((q : Int), t.getD k 0)) := by
  have hnd := h.nd (by omega)
  have hin : ((q : Int), t.getD k 0) ∈ l := by
    unfold nm at hn
    split at hn
    · assumption
    · omega
  rw [h.here] at hin
  obtain ⟨h1, h2⟩ := number_of h.vd hnd h.mem hin
  refine ⟨?_, h1, ?_, by have := h.len; omega, h.vd, fun _ => hnd⟩
  · rw [← h.out, drop_at (show k < t.length by omega), pr_go ⟨h1, ?_⟩]
    intro e
    have := congrArg List.length e
    simp at this
    omega
  · rw [h2, h.here]

/-- A new phrase, or the last byte: it is told. -/
theorem PI.put {t : List Int} {k q : Nat} {l : List (Int × Int)} {p : List Int} (h : PI t k l p q) (hk : k < t.length) (hn : nm l ((q : Int), t.getD k 0) = 0 ∨ k + 1 = t.length) :
    PI t (k + 1) (l ++ [((q : Int), t.getD k 0)]) [] 0 := by
  have hnd := h.nd hk
  have hc : ¬ ((p ++ [t.getD k 0]) ∈ tx l ∧ t.drop (k + 1) ≠ []) := by
    rintro ⟨h1, h2⟩
    rcases hn with hn | hn
    · have := known_of h.vd hnd h1
      rw [← h.here] at this
      unfold nm at hn
      rw [if_pos this] at hn
      omega
    · exact h2 (List.drop_eq_nil_of_le (by omega))
  have hq := h.few
  have htx : tx (l ++ [((q : Int), t.getD k 0)]) = tx l ++ [p ++ [t.getD k 0]] := by
    rw [tx_append]
    simp only [Int.toNat_natCast]
    rw [h.here, getD_idxOf h.mem]
  refine ⟨?_, nil_mem_tx _, (idxOf_nil_tx _).symm, by have := h.len; simp; omega, h.vd.append (by simp) (by simp; omega), fun hk' => ?_⟩
  · rw [← h.out, drop_at hk, pr_put hc, htx, ← h.here]
    simp
  · rw [htx]
    refine List.nodup_append.2 ⟨hnd, by simp, ?_⟩
    intro x hx y hy e
    simp only [List.mem_singleton] at hy
    subst hy
    subst e
    refine hc ⟨hx, fun e => ?_⟩
    have := congrArg List.length e
    simp at this
    omega

theorem PI.new {t : List Int} {k q : Nat} {l : List (Int × Int)} (hn : nm l ((q : Int), t.getD k 0) = 0) : ((q : Int), t.getD k 0) ∉ l := by
  intro h
  unfold nm at hn
  rw [if_pos h] at hn
  omega

theorem PI.done {t : List Int} {q : Nat} {l : List (Int × Int)} {p : List Int} (h : PI t t.length l p q) : l = phr t := by
  have := h.out
  rw [List.drop_length, pr_nil, List.append_nil] at this
  exact this

end Go.Proofs.Ytjgheojfdkfmkaa
