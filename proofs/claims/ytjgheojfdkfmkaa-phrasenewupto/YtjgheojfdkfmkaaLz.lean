/-
  Phrases of a text, by themselves: what they are, that they make the text, that no two are the same but perhaps the last. Nothing here speaks of memory.
-/
namespace Go.Proofs.Ytjgheojfdkfmkaa

/-- The phrases of what is left, t, where p was read of the next phrase and K are the texts that are phrases. -/
def pr (K : List (List Int)) : List Int → List Int → List (Int × Int)
  | _, [] => []
  | p, b :: t => if (p ++ [b]) ∈ K ∧ t ≠ [] then pr K (p ++ [b]) t else (((K.idxOf p : Nat) : Int), b) :: pr (K ++ [p ++ [b]]) [] t
  termination_by _ t => t.length

theorem pr_nil (K : List (List Int)) (p : List Int) : pr K p [] = [] := by rw [pr]
theorem pr_go {K : List (List Int)} {p t : List Int} {b : Int} (h : (p ++ [b]) ∈ K ∧ t ≠ []) : pr K p (b :: t) = pr K (p ++ [b]) t := by rw [pr, if_pos h]
theorem pr_put {K : List (List Int)} {p t : List Int} {b : Int} (h : ¬ ((p ++ [b]) ∈ K ∧ t ≠ [])) : pr K p (b :: t) = (((K.idxOf p : Nat) : Int), b) :: pr (K ++ [p ++ [b]]) [] t := by rw [pr, if_neg h]

/-- The phrases of a text. -/
def phr (t : List Int) : List (Int × Int) := pr [[]] [] t

/-- The texts of phrases, behind those that are known. -/
def txs (K : List (List Int)) : List (Int × Int) → List (List Int)
  | [] => K
  | x :: l => txs (K ++ [K.getD x.1.toNat [] ++ [x.2]]) l

def tx (l : List (Int × Int)) : List (List Int) := txs [[]] l

/-- The text of phrases. -/
def joined (l : List (Int × Int)) : List Int := (tx l).flatten

/-- Each phrase is made of one ahead of it. -/
def Vd (l : List (Int × Int)) : Prop := ∀ i (h : i < l.length), 0 ≤ l[i].1 ∧ l[i].1 ≤ i

theorem txs_append (K : List (List Int)) (l : List (Int × Int)) (x : Int × Int) : txs K (l ++ [x]) = txs K l ++ [(txs K l).getD x.1.toNat [] ++ [x.2]] := by
  induction l generalizing K with
  | nil => rfl
  | cons y l ih => exact ih _

theorem txs_length (K : List (List Int)) (l : List (Int × Int)) : (txs K l).length = K.length + l.length := by
  induction l generalizing K with
  | nil => rfl
  | cons y l ih =>
    rw [txs, ih]
    simp
    omega

theorem txs_pre (K : List (List Int)) (l : List (Int × Int)) : ∃ S, txs K l = K ++ S := by
  induction l generalizing K with
  | nil => exact ⟨[], by simp [txs]⟩
  | cons y l ih =>
    obtain ⟨S, hS⟩ := ih (K ++ [K.getD y.1.toNat [] ++ [y.2]])
    exact ⟨_, by rw [txs, hS, List.append_assoc]⟩

theorem getD_idxOf {K : List (List Int)} {p : List Int} (h : p ∈ K) : K.getD (K.idxOf p) [] = p := by
  have := List.idxOf_lt_length_of_mem h
  rw [List.getD_eq_getElem?_getD, List.getElem?_eq_getElem this]
  simp

theorem pr_text : ∀ (n : Nat) (K : List (List Int)) (p t : List Int), t.length ≤ n → [] ∈ K → p ∈ K → (t = [] → p = []) → ∃ S, txs K (pr K p t) = K ++ S ∧ S.flatten = p ++ t
  | _, K, p, [], _, _, _, h => ⟨[], by simp [pr_nil, txs], by simp [h rfl]⟩
  | 0, _, _, _ :: _, hn, _, _, _ => by simp at hn
  | n + 1, K, p, b :: t, hn, h0, hp, _ => by
    by_cases hc : (p ++ [b]) ∈ K ∧ t ≠ []
    · rw [pr_go hc]
      obtain ⟨S, h1, h2⟩ := pr_text n K (p ++ [b]) t (by simpa using hn) h0 hc.1 (fun h => absurd h hc.2)
      exact ⟨S, h1, by rw [h2]; simp⟩
    · rw [pr_put hc, txs]
      simp only [Int.toNat_natCast]
      rw [getD_idxOf hp]
      obtain ⟨S, h1, h2⟩ := pr_text n (K ++ [p ++ [b]]) [] t (by simpa using hn) (by simp [h0]) (by simp [h0]) (fun _ => rfl)
      refine ⟨(p ++ [b]) :: S, by rw [h1]; simp, ?_⟩
      rw [List.flatten_cons, h2]
      simp

/-- Its phrases make the text. -/
theorem joined_phr (t : List Int) : joined (phr t) = t := by
  obtain ⟨S, h1, h2⟩ := pr_text t.length [[]] [] t (Nat.le_refl _) (by simp) (by simp) (fun _ => rfl)
  unfold joined tx phr
  rw [h1]
  simp [h2]

theorem pr_vd : ∀ (n : Nat) (K : List (List Int)) (p t : List Int), t.length ≤ n → [] ∈ K → p ∈ K → ∀ i (h : i < (pr K p t).length), 0 ≤ (pr K p t)[i].1 ∧ (pr K p t)[i].1 < K.length + i
  | _, K, p, [], _, _, _ => by intro i h; rw [pr_nil] at h; simp at h
  | 0, _, _, _ :: _, hn, _, _ => by simp at hn
  | n + 1, K, p, b :: t, hn, h0, hp => by
    by_cases hc : (p ++ [b]) ∈ K ∧ t ≠ []
    · rw [pr_go hc]
      exact pr_vd n K (p ++ [b]) t (by simpa using hn) h0 hc.1
    · rw [pr_put hc]
      intro i h
      cases i with
      | zero =>
        have := List.idxOf_lt_length_of_mem hp
        simp only [List.getElem_cons_zero]
        omega
      | succ i =>
        simp only [List.length_cons] at h
        have := pr_vd n (K ++ [p ++ [b]]) [] t (by simpa using hn) (by simp [h0]) (by simp [h0]) i (by omega)
        simp only [List.getElem_cons_succ]
        simp only [List.length_append, List.length_singleton] at this
        omega

theorem phr_vd (t : List Int) : Vd (phr t) := by
  intro i h
  have := pr_vd t.length [[]] [] t (Nat.le_refl _) (by simp) (by simp) i h
  simp only [List.length_singleton] at this
  exact ⟨this.1, by have := this.2; unfold phr; omega⟩

theorem pr_length : ∀ (n : Nat) (K : List (List Int)) (p t : List Int), t.length ≤ n → (pr K p t).length ≤ t.length
  | _, K, p, [], _ => by rw [pr_nil]; simp
  | 0, _, _, _ :: _, hn => by simp at hn
  | n + 1, K, p, b :: t, hn => by
    by_cases hc : (p ++ [b]) ∈ K ∧ t ≠ []
    · rw [pr_go hc]
      have := pr_length n K (p ++ [b]) t (by simpa using hn)
      simp
      omega
    · rw [pr_put hc]
      have := pr_length n (K ++ [p ++ [b]]) [] t (by simpa using hn)
      simp
      omega

theorem phr_length (t : List Int) : (phr t).length ≤ t.length := pr_length t.length _ _ _ (Nat.le_refl _)

theorem pr_some : ∀ (n : Nat) (K : List (List Int)) (p t : List Int), t.length ≤ n → t ≠ [] → 0 < (pr K p t).length
  | _, K, p, [], _, h => absurd rfl h
  | 0, _, _, _ :: _, hn, _ => by simp at hn
  | n + 1, K, p, b :: t, hn, _ => by
    by_cases hc : (p ++ [b]) ∈ K ∧ t ≠ []
    · rw [pr_go hc]
      exact pr_some n K (p ++ [b]) t (by simpa using hn) hc.2
    · rw [pr_put hc]
      simp

theorem phr_some {t : List Int} (h : t ≠ []) : 0 < (phr t).length := pr_some t.length _ _ _ (Nat.le_refl _) h

theorem pr_more : ∀ (n : Nat) (K : List (List Int)) (p t s : List Int), t.length ≤ n → (pr K p t).length ≤ (pr K p (t ++ s)).length
  | _, K, p, [], s, _ => by rw [pr_nil]; simp
  | 0, _, _, _ :: _, _, hn => by simp at hn
  | n + 1, K, p, b :: t, s, hn => by
    by_cases hk : (p ++ [b]) ∈ K
    · by_cases ht : t = []
      · subst ht
        by_cases hs : s = []
        · simp [hs]
        · rw [pr_put (by simp), List.singleton_append, pr_go ⟨hk, hs⟩]
          have := pr_some s.length K (p ++ [b]) s (Nat.le_refl _) hs
          simp [pr_nil]
          omega
      · rw [pr_go ⟨hk, ht⟩, List.cons_append, pr_go ⟨hk, by simp [ht]⟩]
        exact pr_more n K (p ++ [b]) t s (by simpa using hn)
    · rw [pr_put (by simp [hk]), List.cons_append, pr_put (by simp [hk])]
      have := pr_more n (K ++ [p ++ [b]]) [] t s (by simpa using hn)
      simp
      omega

/-- With bytes behind it a text has no fewer. -/
theorem phr_more (t s : List Int) : (phr t).length ≤ (phr (t ++ s)).length := pr_more t.length _ _ _ _ (Nat.le_refl _)

theorem pr_new : ∀ (n : Nat) (K : List (List Int)) (p t : List Int) (old : List (Int × Int)), t.length ≤ n → [] ∈ K → p ∈ K → (∀ x ∈ old, x.1.toNat < K.length ∧ (K.getD x.1.toNat [] ++ [x.2]) ∈ K) →
    ∀ L, pr K p t = L → ∀ i (h : i + 1 < L.length), L[i] ∉ old ++ L.take i
  | _, K, p, [], _, _, _, _, _ => by intro L hL i h; rw [pr_nil] at hL; subst hL; simp at h
  | 0, _, _, _ :: _, _, hn, _, _, _ => by simp at hn
  | n + 1, K, p, b :: t, old, hn, h0, hp, ho => by
    by_cases hc : (p ++ [b]) ∈ K ∧ t ≠ []
    · rw [pr_go hc]
      exact pr_new n K (p ++ [b]) t old (by simpa using hn) h0 hc.1 ho
    · rw [pr_put hc]
      have hL := List.idxOf_lt_length_of_mem hp
      have ih := pr_new n (K ++ [p ++ [b]]) [] t (old ++ [(((K.idxOf p : Nat) : Int), b)]) (by simpa using hn) (by simp [h0]) (by simp [h0]) (by
        intro x hx
        rcases List.mem_append.1 hx with hx | hx
        · obtain ⟨h1, h2⟩ := ho x hx
          refine ⟨by simp; omega, ?_⟩
          rw [List.getD_eq_getElem?_getD, List.getElem?_append_left h1, ← List.getD_eq_getElem?_getD]
          exact List.mem_append_left _ h2
        · simp only [List.mem_singleton] at hx
          subst hx
          simp only [Int.toNat_natCast]
          refine ⟨by simp; omega, ?_⟩
          rw [List.getD_eq_getElem?_getD, List.getElem?_append_left hL, ← List.getD_eq_getElem?_getD, getD_idxOf hp]
          simp)
      intro L hL' i h
      subst hL'
      cases i with
      | zero =>
        simp only [List.getElem_cons_zero, List.take_zero, List.append_nil]
        intro hm
        have h2 := (ho _ hm).2
        simp only [Int.toNat_natCast] at h2
        rw [getD_idxOf hp] at h2
        have ht : t = [] := by
          rcases Decidable.em (t = []) with h' | h'
          · exact h'
          · exact absurd ⟨h2, h'⟩ hc
        subst ht
        rw [pr_nil] at h
        simp at h
      | succ i =>
        simp only [List.length_cons] at h
        have := ih _ rfl i (by omega)
        simp only [List.getElem_cons_succ, List.take_succ_cons]
        simpa using this

/-- No two phrases are the same, but perhaps the last one is as one ahead of it. -/
theorem phr_new (t : List Int) (i j : Nat) (h : i + 1 < (phr t).length) (hj : j < i) : (phr t)[i] ≠ (phr t)[j] := by
  intro e
  refine pr_new t.length [[]] [] t [] (Nat.le_refl _) (by simp) (by simp) (by simp) _ rfl i h ?_
  rw [List.nil_append]
  refine List.mem_take_iff_getElem.2 ⟨j, ?_, e.symm⟩
  show j < min i (phr t).length
  omega

end Go.Proofs.Ytjgheojfdkfmkaa
