/-
  What prefix.begins, quipuref.Begins, slices.IndexFunc and slices.ContainsFunc answer of words of bits.
-/
import Derived.Test.YtakggfogoobdnaaEq
import Derived.Shelf.Abstract
namespace Go.Proofs.Ytakggfogoobdnaa
open Go.RowKit

theorem Bits.take {w : World} {x : Wd} (h : Bits w x) (n : Nat) : Bits w ⟨x.a, x.c, x.l.take n⟩ := by
  obtain ⟨h1, h2, h0, b, o, h3, h4⟩ := h
  refine ⟨by simp; omega, h2, h0, b, o, fun h => h3 (by simp at h; omega), fun i hi => ?_⟩
  have hi' : i < n ∧ i < x.l.length := by simp at hi; omega
  have := h4 i hi'.2
  simpa [List.getD_eq_getElem?_getD, List.getElem?_take, hi'.1] using this

theorem pre_false {l m : List Bool} (h : m.length < l.length) : l.isPrefixOf m = false := by
  rw [Bool.eq_false_iff]
  intro hp
  have := (List.isPrefixOf_iff_prefix.1 hp).length_le
  omega

theorem pre_eq (l m : List Bool) : l.isPrefixOf m = (l == m.take l.length) := by
  rw [Bool.eq_iff_iff, List.isPrefixOf_iff_prefix, List.prefix_iff_eq_take, beq_iff_eq]


/-- A function value that answers p of each of the words, whatever has been laid since. -/
def PredOn (w : World) (f : Nat) (lb : Array Value) (p : Wd → Bool) (g : List Wd) : Prop :=
  ∀ (W : World) (x : Wd), x ∈ g → Ext w W → Calls Try.prog f (#[x.v] ++ lb) W fun e w' => e = .returned (.bool (p x)) ∧ Ext W w'

/-- The place of the first of which p holds, or -1. -/
def firstOf {α : Type} (p : α → Bool) (g : List α) : Int :=
  match g.findIdx? p with
  | some i => i
  | none => -1

theorem firstOf_hit {α : Type} (p : α → Bool) (g : List α) (k : Nat) (hk : k < g.length) (h : p g[k] = true) (h0 : ∀ j (hj : j < g.length), j < k → p g[j] = false) : firstOf p g = k := by
  have : g.findIdx? p = some k := by
    rw [List.findIdx?_eq_some_iff_getElem]
    exact ⟨hk, h, fun j hj => by rw [h0 j (by omega) hj]; decide⟩
  simp [firstOf, this]

theorem firstOf_miss {α : Type} (p : α → Bool) (g : List α) (h0 : ∀ j (hj : j < g.length), p g[j] = false) : firstOf p g = -1 := by
  have : g.findIdx? p = none := by
    rw [List.findIdx?_eq_none_iff]
    intro x hx
    obtain ⟨j, hj, rfl⟩ := List.mem_iff_getElem.1 hx
    exact h0 j hj
  simp [firstOf, this]

theorem firstOf_range {α : Type} (p : α → Bool) (g : List α) : -1 ≤ firstOf p g ∧ firstOf p g < g.length := by
  unfold firstOf
  split
  · rename_i i h
    have := (List.findIdx?_eq_some_iff_getElem.1 h).1
    omega
  · omega

theorem firstOf_any {α : Type} (p : α → Bool) (g : List α) : decide (0 ≤ firstOf p g) = g.any p := by
  unfold firstOf
  split
  · rename_i i h
    obtain ⟨h1, h2, _⟩ := List.findIdx?_eq_some_iff_getElem.1 h
    have : g.any p = true := List.any_eq_true.2 ⟨g[i], List.getElem_mem h1, h2⟩
    rw [this]; simp
  · rename_i h
    have : g.any p = false := List.any_eq_false.2 (fun x hx => by rw [List.findIdx?_eq_none_iff.1 h x hx]; decide)
    rw [this]; simp


end Go.Proofs.Ytakggfogoobdnaa
