/-
  Books: what is wrong with one, which word is the nearest, how far the nearest two are apart, and the book that grows. Nothing here speaks of the program.
-/
import Derived.Test.YtdfjjjcaibadoabXo
namespace Go.Proofs.Ytdfjjjcaibadoab

/-- What is wrong with the word at the place k. -/
def flt (M : Nat) (g : List Nat) (k : Nat) : Int := if M ≤ g.getD k 0 then 4 else if g.getD k 0 ∈ g.take k then 3 else 0

/-- What is wrong with the first word that is wrong. -/
def bk (M : Nat) (g : List Nat) : Int :=
  match (List.range g.length).find? (fun i => flt M g i != 0) with
  | some i => flt M g i
  | none => 0

theorem bk_hit {M : Nat} {g : List Nat} {k : Nat} (hk : k < g.length) (h : flt M g k ≠ 0) (h0 : ∀ j, j < k → flt M g j = 0) : bk M g = flt M g k := by
  have : (List.range g.length).find? (fun i => flt M g i != 0) = some k := by
    rw [List.find?_range_eq_some]
    refine ⟨by simpa using h, by simpa using hk, fun j hj => by simp [h0 j hj]⟩
  unfold bk
  rw [this]

theorem bk_miss {M : Nat} {g : List Nat} (h0 : ∀ j, j < g.length → flt M g j = 0) : bk M g = 0 := by
  have : (List.range g.length).find? (fun i => flt M g i != 0) = none := by
    rw [List.find?_range_eq_none]
    exact fun j hj => by simp [h0 j hj]
  unfold bk
  rw [this]

theorem bk_zero {M : Nat} {g : List Nat} (h : bk M g = 0) : ∀ j, j < g.length → flt M g j = 0 := by
  unfold bk at h
  split at h
  · rename_i i hi
    have := List.find?_some hi
    simp at this
    exact absurd h this
  · rename_i hi
    rw [List.find?_range_eq_none] at hi
    intro j hj
    simpa using hi j hj

theorem flt_zero {M : Nat} {g : List Nat} {k : Nat} : flt M g k = 0 ↔ g.getD k 0 < M ∧ g.getD k 0 ∉ g.take k := by
  unfold flt
  by_cases h : M ≤ g.getD k 0
  · rw [if_pos h]; constructor
    · intro h'; omega
    · intro h'; omega
  · rw [if_neg h]
    by_cases h2 : g.getD k 0 ∈ g.take k
    · rw [if_pos h2]; constructor
      · intro h'; omega
      · intro h'; exact absurd h2 h'.2
    · rw [if_neg h2]; exact ⟨fun _ => ⟨by omega, h2⟩, fun _ => rfl⟩

/-- A book of words of m bits. -/
structure Book (m : Nat) (g : List Nat) : Prop where
  bits : m ≤ 12
  few : g.length ≤ 64
  low : ∀ x ∈ g, x < 2 ^ m
  once : g.Nodup

theorem getD_get {g : List Nat} {i : Nat} (h : i < g.length) : g.getD i 0 = g[i] := by
  rw [List.getD_eq_getElem?_getD, List.getElem?_eq_getElem h]; rfl

theorem Book.lt {m : Nat} {g : List Nat} (B : Book m g) {i : Nat} (h : i < g.length) : g.getD i 0 < 2 ^ m := by
  rw [getD_get h]; exact B.low _ (List.getElem_mem h)

theorem Book.ne {m : Nat} {g : List Nat} (B : Book m g) {i j : Nat} (hi : i < g.length) (hj : j < g.length) (h : i ≠ j) : g.getD i 0 ≠ g.getD j 0 := by
  rw [getD_get hi, getD_get hj]
  intro e
  exact h ((List.getElem_inj B.once).1 e)

/-- What is told of a count of bits and of words. -/
def bke (n : Int) (g : List Nat) : Int := if (0 ≤ n ∧ n ≤ 12) ∧ g.length ≤ 64 then bk (2 ^ n.toNat) g else 1

theorem bke_nat {n : Nat} {g : List Nat} (hn : n ≤ 12) (hg : g.length ≤ 64) : bke n g = bk (2 ^ n) g := if_pos ⟨⟨by omega, by omega⟩, hg⟩
theorem bke_out {n : Int} {g : List Nat} (h : ¬ ((0 ≤ n ∧ n ≤ 12) ∧ g.length ≤ 64)) : bke n g = 1 := if_neg h

theorem bke_zero {n : Int} {g : List Nat} (h : bke n g = 0) : ∃ m : Nat, n = m ∧ Book m g := by
  unfold bke at h
  split at h
  · rename_i c
    have z := bk_zero h
    refine ⟨n.toNat, by omega, by omega, c.2, ?_, ?_⟩
    · intro x hx
      obtain ⟨i, hi, rfl⟩ := List.mem_iff_getElem.1 hx
      have := (flt_zero.1 (z i hi)).1
      rwa [getD_get hi] at this
    · rw [List.nodup_iff_pairwise_ne, List.pairwise_iff_getElem]
      intro i j hi hj hij e
      apply (flt_zero.1 (z j hj)).2
      rw [getD_get hj, ← e, List.mem_take_iff_getElem]
      exact ⟨i, by omega, rfl⟩
  · omega

theorem Book.told {m : Nat} {g : List Nat} (B : Book m g) : bke m g = 0 := by
  rw [bke_nat B.bits B.few]
  refine bk_miss (fun j hj => flt_zero.2 ⟨B.lt hj, fun h => ?_⟩)
  rw [List.mem_take_iff_getElem] at h
  obtain ⟨i, hi, e⟩ := h
  rw [getD_get hj] at e
  have := (List.getElem_inj B.once).1 e
  omega

/-- The first place whose word is as near to q as any of the first k. -/
def bst (g : List Nat) (q : Nat) : Nat → Nat
  | 0 => 0
  | k + 1 => if far (g.getD k 0) q < far (g.getD (bst g q k) 0) q then k else bst g q k

theorem bst_lt (g : List Nat) (q : Nat) : ∀ k, 0 < k → bst g q k < k
  | 0, h => absurd h (Nat.lt_irrefl _)
  | k + 1, _ => by
    show (if _ then k else bst g q k) < k + 1
    split
    · omega
    · rcases Nat.eq_zero_or_pos k with rfl | h
      · show 0 < 0 + 1; omega
      · have := bst_lt g q k h; omega

theorem bst_le (g : List Nat) (q : Nat) : ∀ k j, j < k → far (g.getD (bst g q k) 0) q ≤ far (g.getD j 0) q
  | 0, j, h => absurd h (Nat.not_lt_zero _)
  | k + 1, j, h => by
    have ih := bst_le g q k
    have e : bst g q (k + 1) = if far (g.getD k 0) q < far (g.getD (bst g q k) 0) q then k else bst g q k := rfl
    rw [e]
    clear e
    generalize bst g q k = B at *
    rcases Nat.lt_succ_iff_lt_or_eq.1 h with h' | rfl
    · have := ih j h'
      split
      · omega
      · exact this
    · split
      · exact Nat.le_refl _
      · omega

/-- How far the nearest two of the first k + 1 are apart, and no more than n. -/
def lst (n : Nat) (g : List Nat) : Nat → Nat
  | 0 => n
  | k + 1 => min (lst n g k) (far (g.getD (bst g (g.getD (k + 1) 0) (k + 1)) 0) (g.getD (k + 1) 0))

theorem lst_le (n : Nat) (g : List Nat) : ∀ k, lst n g k ≤ n
  | 0 => Nat.le_refl _
  | k + 1 => by
    have := lst_le n g k
    show min _ _ ≤ n
    omega

theorem lst_all (n : Nat) (g : List Nat) : ∀ k a b, b < a → a ≤ k → lst n g k ≤ far (g.getD a 0) (g.getD b 0)
  | 0, a, b, h, h' => by omega
  | k + 1, a, b, h, h' => by
    have e : lst n g (k + 1) = min (lst n g k) (far (g.getD (bst g (g.getD (k + 1) 0) (k + 1)) 0) (g.getD (k + 1) 0)) := rfl
    rcases Nat.lt_or_ge k a with h1 | h1
    · obtain rfl : a = k + 1 := by omega
      have := bst_le g (g.getD (k + 1) 0) (k + 1) b h
      rw [far_comm (g.getD (k + 1) 0) (g.getD b 0)]
      omega
    · have := lst_all n g k a b h h1
      omega

theorem lst_some (n : Nat) (g : List Nat) : ∀ k, lst n g k = n ∨ ∃ a b, b < a ∧ a ≤ k ∧ lst n g k = far (g.getD a 0) (g.getD b 0)
  | 0 => Or.inl rfl
  | k + 1 => by
    have e : lst n g (k + 1) = min (lst n g k) (far (g.getD (bst g (g.getD (k + 1) 0) (k + 1)) 0) (g.getD (k + 1) 0)) := rfl
    have l := bst_lt g (g.getD (k + 1) 0) (k + 1) (by omega)
    generalize hB : bst g (g.getD (k + 1) 0) (k + 1) = B at *
    clear hB
    rcases Nat.le_total (lst n g k) (far (g.getD B 0) (g.getD (k + 1) 0)) with h | h
    · rcases lst_some n g k with h' | ⟨a, b, h1, h2, h3⟩
      · left; omega
      · right; exact ⟨a, b, h1, by omega, by omega⟩
    · right
      exact ⟨k + 1, B, l, by omega, by rw [far_comm (g.getD (k + 1) 0)]; omega⟩

/-- L is how far the nearest two are apart. -/
def IsL (g : List Nat) (L : Int) : Prop := (∀ a b, b < a → a < g.length → L ≤ (far (g.getD a 0) (g.getD b 0) : Nat)) ∧ ∃ a b, b < a ∧ a < g.length ∧ L = (far (g.getD a 0) (g.getD b 0) : Nat)

theorem IsL.eq {g : List Nat} {L K : Int} (h : IsL g L) (k : IsL g K) : L = K := by
  obtain ⟨h1, a, b, h2, h3, h4⟩ := h
  obtain ⟨k1, a', b', k2, k3, k4⟩ := k
  have e := h1 a' b' k2 k3
  have f := k1 a b h2 h3
  omega

theorem Book.isL {n : Nat} {g : List Nat} (B : Book n g) (h : 2 ≤ g.length) : IsL g (lst n g (g.length - 1) : Nat) := by
  refine ⟨fun a b h1 h2 => by have := lst_all n g (g.length - 1) a b h1 (by omega); omega, ?_⟩
  rcases lst_some n g (g.length - 1) with h' | ⟨a, b, h1, h2, h3⟩
  · refine ⟨1, 0, by omega, by omega, ?_⟩
    have e := lst_all n g (g.length - 1) 1 0 (by omega) (by omega)
    have f : far (g.getD 1 0) (g.getD 0 0) ≤ n := far_le (by have := B.bits; omega) (B.lt (by omega)) (B.lt (by omega))
    omega
  · exact ⟨a, b, h1, by omega, by omega⟩

theorem bst_take (g : List Nat) (q m : Nat) : ∀ k, k ≤ m → bst (g.take m) q k = bst g q k
  | 0, _ => rfl
  | k + 1, h => by
    have ih := bst_take g q m k (by omega)
    have e1 : (g.take m).getD k 0 = g.getD k 0 := by simp [List.getD_eq_getElem?_getD, show k < m by omega]
    have e2 : (g.take m).getD (bst g q k) 0 = g.getD (bst g q k) 0 := by
      have : bst g q k < m := by
        rcases Nat.eq_zero_or_pos k with rfl | hk
        · show 0 < m; omega
        · have := bst_lt g q k hk; omega
      simp [List.getD_eq_getElem?_getD, this]
    show (if far ((g.take m).getD k 0) q < far ((g.take m).getD (bst (g.take m) q k) 0) q then k else bst (g.take m) q k) = (if far (g.getD k 0) q < far (g.getD (bst g q k) 0) q then k else bst g q k)
    rw [ih, e1, e2]

/-- The words that are taken of all below m. -/
def gw (d : Nat) : Nat → List Nat
  | 0 => []
  | m + 1 => if (gw d m).any (fun v => decide (far v m < d)) then gw d m else gw d m ++ [m]

theorem gw_lt (d : Nat) : ∀ m, ∀ x ∈ gw d m, x < m
  | 0, x, h => by cases h
  | m + 1, x, h => by
    have ih := gw_lt d m
    have h' : x ∈ (if _ then gw d m else gw d m ++ [m]) := h
    split at h'
    · have := ih x h'; omega
    · rw [List.mem_append] at h'
      rcases h' with h' | h'
      · have := ih x h'; omega
      · simp at h'; omega

theorem gw_few (d : Nat) : ∀ m, (gw d m).length ≤ m
  | 0 => Nat.le_refl _
  | m + 1 => by
    have ih := gw_few d m
    show (if _ then gw d m else gw d m ++ [m]).length ≤ m + 1
    split
    · omega
    · simp; omega

theorem gw_mono (d : Nat) (m : Nat) : ∀ k, m ≤ k → (gw d m).length ≤ (gw d k).length
  | 0, h => by rw [show m = 0 by omega]; exact Nat.le_refl _
  | k + 1, h => by
    rcases Nat.lt_or_ge m (k + 1) with h' | h'
    · have ih := gw_mono d m k (by omega)
      show _ ≤ (if _ then gw d k else gw d k ++ [k]).length
      split
      · exact ih
      · simp; omega
    · rw [show m = k + 1 by omega]; exact Nat.le_refl _

end Go.Proofs.Ytdfjjjcaibadoab
