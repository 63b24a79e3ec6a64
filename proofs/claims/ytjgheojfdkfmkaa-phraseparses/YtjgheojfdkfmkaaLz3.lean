/-
  The reference's way: the shortest beginning that is no phrase yet.
-/
import Derived.Test.YtjgheojfdkfmkaaLz2
namespace Go.Proofs.Ytjgheojfdkfmkaa

theorem take_succ_getD {t : List Int} {s : Nat} (h : s < t.length) : t.take (s + 1) = t.take s ++ [t.getD s 0] := by
  rw [List.take_succ_eq_append_getElem h]
  simp [List.getD_eq_getElem?_getD, h]

theorem pr_take {K : List (List Int)} {t : List Int} : ∀ s, s + 1 ≤ t.length → (∀ r, 1 ≤ r → r ≤ s → t.take r ∈ K) → pr K [] t = pr K (t.take s) (t.drop s)
  | 0, _, _ => by simp
  | s + 1, hs, h => by
    rw [pr_take s (by omega) (fun r h1 h2 => h r h1 (by omega)), drop_at (show s < t.length by omega), pr_go ⟨?_, ?_⟩, take_succ_getD (by omega)]
    · rw [← take_succ_getD (by omega)]
      exact h (s + 1) (by omega) (by omega)
    · intro e
      have := congrArg List.length e
      simp at this
      omega

/-- The next phrase: all shorter beginnings are known, and this one is not, or it is all that is left. -/
theorem pr_next {K : List (List Int)} {t : List Int} {s : Nat} (hs : s + 1 ≤ t.length) (h : ∀ r, 1 ≤ r → r ≤ s → t.take r ∈ K) (h' : t.take (s + 1) ∉ K ∨ s + 1 = t.length) :
    pr K [] t = (((K.idxOf (t.take s) : Nat) : Int), t.getD s 0) :: pr (K ++ [t.take (s + 1)]) [] (t.drop (s + 1)) := by
  rw [pr_take s hs h, drop_at (show s < t.length by omega), pr_put, take_succ_getD (by omega)]
  rintro ⟨h1, h2⟩
  rw [← take_succ_getD (by omega)] at h1
  rcases h' with h' | h'
  · exact h' h1
  · exact h2 (List.drop_eq_nil_of_le (by omega))

theorem plc_mem {K : List (List Int)} {t : List Int} (h : t ∈ K) : plc K t = ((K.idxOf t : Nat) : Int) := if_pos h

theorem plc_geq {K : List (List Int)} {t : List Int} (h : t ∈ K) : plc K t ≥ 0 := by rw [plc_mem h]; omega
theorem plc_neg {K : List (List Int)} {t : List Int} (h : t ∉ K) : plc K t = -1 := if_neg h
theorem plc_le {K : List (List Int)} {t : List Int} : plc K t ≤ K.length := by
  unfold plc
  split
  · rename_i h
    have := List.idxOf_lt_length_of_mem h
    omega
  · omega

/-- What the reference has: the phrases so far, what is known, what is left. -/
structure RI (t : List Int) (g : List (Int × Int)) (K : List (List Int)) (r : List Int) : Prop where
  out : g ++ pr K [] r = phr t
  mem : [] ∈ K
  few : g.length + r.length ≤ t.length
  len : K.length = g.length + 1

theorem RI.start (t : List Int) : RI t [] [[]] t := ⟨rfl, by simp, by simp, rfl⟩

theorem RI.next {t : List Int} {g : List (Int × Int)} {K : List (List Int)} {r : List Int} (h : RI t g K r) {s : Nat} (hs : s + 1 ≤ r.length) (h1 : ∀ i, 1 ≤ i → i ≤ s → r.take i ∈ K) (h2 : r.take (s + 1) ∉ K ∨ s + 1 = r.length) :
    RI t (g ++ [(plc K (r.take s), r.getD s 0)]) (K ++ [r.take (s + 1)]) (r.drop (s + 1)) := by
  have hm : r.take s ∈ K := by
    cases s with
    | zero => simpa using h.mem
    | succ s => exact h1 _ (by omega) (by omega)
  refine ⟨?_, by simp [h.mem], ?_, by simp [h.len]⟩
  · rw [← h.out, pr_next hs h1 h2, plc_mem hm]
    simp
  · have := h.few
    simp
    omega

theorem RI.done {t : List Int} {g : List (Int × Int)} {K : List (List Int)} (h : RI t g K []) : g = phr t := by
  have := h.out
  rw [pr_nil, List.append_nil] at this
  exact this

end Go.Proofs.Ytjgheojfdkfmkaa
