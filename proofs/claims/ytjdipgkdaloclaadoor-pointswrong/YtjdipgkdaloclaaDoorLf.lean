/-
  Bits in memory; which places are not lost: points.placesLeft.
-/
import Derived.Test.YtjdipgkdaloclaaDoorRw
namespace Go.Proofs.YtjdipgkdaloclaaDoor
open Go.RowKit

/-- Bits as they lie in memory: where, their room, the bits. -/
structure Bd where
  a : Option Addr
  c : Nat
  l : List Bool

abbrev Bd.v (x : Bd) : Value := .slice x.a x.l.length x.c

def Bls (w : World) (x : Bd) : Prop :=
  x.l.length ≤ x.c ∧ x.c ≤ maxLen ∧ (x.a = none → x.c = 0) ∧
    ∃ b o, (0 < x.l.length → x.a = some ⟨b, o, none⟩) ∧ ∀ i, i < x.l.length → w.cell? ⟨b, o + i, none⟩ = some (.bool (x.l.getD i false))
theorem Bls.ext {w w' : World} {x : Bd} (h : Bls w x) (e : Ext w w') : Bls w' x := by
  obtain ⟨h1, h2, h0, b, o, h3, h4⟩ := h
  exact ⟨h1, h2, h0, b, o, h3, fun i hi => e.cell (h4 i hi)⟩

/-- The places below n that are not lost. -/
def lft (bs : List Bool) (n : Nat) : List Nat := (List.range n).filter fun i => !bs.getD i false
theorem lft_zero (bs : List Bool) : lft bs 0 = [] := rfl
theorem lft_next (bs : List Bool) (k : Nat) : lft bs (k + 1) = lft bs k ++ (if bs.getD k false then [] else [k]) := by
  unfold lft
  rw [List.range_succ, List.filter_append]
  congr 1
  rw [List.filter_cons]
  cases bs.getD k false
  · rfl
  · rfl
theorem lft_mem {bs : List Bool} {n i : Nat} : i ∈ lft bs n ↔ i < n ∧ bs.getD i false = false := by
  unfold lft
  rw [List.mem_filter, List.mem_range, Bool.not_eq_true']
theorem lft_len (bs : List Bool) (n : Nat) : (lft bs n).length ≤ n := by
  have := List.length_filter_le (fun i => !bs.getD i false) (List.range n)
  rwa [List.length_range] at this
theorem lft_pw (bs : List Bool) (n : Nat) : (lft bs n).Pairwise (· ≠ ·) := by
  unfold lft
  exact (List.Pairwise.filter _ (List.pairwise_lt_range (n := n))).imp (fun h => Nat.ne_of_lt h)
theorem pw_one {l : List Nat} (h : l.Pairwise (· ≠ ·)) {i j : Nat} (hi : i < l.length) (hj : j < l.length) (e : l.getD i 0 = l.getD j 0) : i = j := by
  rw [List.getD_eq_getElem?_getD, List.getD_eq_getElem?_getD, List.getElem?_eq_getElem hi, List.getElem?_eq_getElem hj] at e
  simp only [Option.getD_some] at e
  rcases Nat.lt_trichotomy i j with h' | h' | h'
  · exact absurd e (List.pairwise_iff_getElem.1 h i j hi hj h')
  · exact h'
  · exact absurd e.symm (List.pairwise_iff_getElem.1 h j i hj hi h')
theorem take_nl (l : List Nat) (k : Nat) (hk : k ≤ l.length) : l.take k = nl (fun i => l.getD i 0) k := by
  apply List.ext_getElem
  · simp; omega
  · intro i h1 h2
    have h3 : i < l.length := by
      rw [List.length_take] at h1
      omega
    simp [List.getD_eq_getElem?_getD, h3]
theorem getD_mem {l : List Nat} {i : Nat} (hi : i < l.length) : l.getD i 0 ∈ l := by
  rw [List.getD_eq_getElem?_getD, List.getElem?_eq_getElem hi]
  exact List.getElem_mem hi

end Go.Proofs.YtjdipgkdaloclaaDoor
