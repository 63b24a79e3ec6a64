/-
  Rows whose cells go by their number; the bits of a list by their number.
-/
import Derived.Test.YtibedfdgkknoiaaOw
import Derived.RegionTactic
import Derived.BigRegion
namespace Go.Proofs.Ytibedfdgkknoiaa
open Go.RowKit

/-- A store into a row whose cells go by their number. -/
theorem Row.setF {w : World} {B n k : Nat} {t : TypeId} {f : Nat → Value} (h : Row w B t ((List.range n).map f)) (v : Value) (g : Nat → Value) (hg : ∀ i, i < n → g i = if i = k then v else f i) : Row (w.setCell ⟨B, k, none⟩ v) B t ((List.range n).map g) := by
  have := h.set k v
  have e : ((List.range n).map f).set k v = (List.range n).map g := by
    apply List.ext_getElem
    · simp
    · intro i h1 h2
      simp at h1 h2
      rw [List.getElem_set]
      simp only [List.getElem_map, List.getElem_range]
      rw [hg i h2]
      by_cases hk : k = i
      · rw [if_pos hk, if_pos hk.symm]
      · rw [if_neg hk, if_neg (fun h => hk h.symm)]
  rw [e] at this
  exact this
theorem Row.madeF (w : World) (t : TypeId) (z : Value) (n : Nat) (f : Nat → Value) (hf : ∀ i, i < n → f i = z) : Row (w.alloc (.cells (madeCells #[z] n) t)) w.heap.size t ((List.range n).map f) := by
  have := Row.made w t z n
  have e : (List.range n).map f = List.replicate n z := by
    apply List.ext_getElem
    · simp
    · intro i h1 h2
      simp at h1
      simp [hf i h1]
  rw [e]
  exact this
theorem Row.cellF {w : World} {B n : Nat} {t : TypeId} {f : Nat → Value} (h : Row w B t ((List.range n).map f)) (k : Nat) (hk : k < n) : w.cell? ⟨B, k, none⟩ = some (f k) := by
  have := h.cell k (by simpa using hk)
  simpa using this

/-- The cells of a row of bits, each by its number. -/
abbrev bf (f : Nat → Bool) (n : Nat) : List Value := (List.range n).map (fun i => Value.bool (f i))
/-- Bits, each by its number. -/
abbrev bl (f : Nat → Bool) (n : Nat) : List Bool := (List.range n).map f
theorem bl_len (f : Nat → Bool) (n : Nat) : (bl f n).length = n := by simp
theorem bl_at (f : Nat → Bool) {n i : Nat} (h : i < n) : (bl f n).getD i false = f i := by
  unfold bl
  simp [List.getD_eq_getElem?_getD, h]
theorem bl_self (l : List Bool) : bl (fun i => l.getD i false) l.length = l := by
  apply List.ext_getElem
  · simp
  · intro i h1 h2
    simp [List.getD_eq_getElem?_getD, h2]
theorem bl_congr {f g : Nat → Bool} {n : Nat} (h : ∀ i, i < n → f i = g i) : bl f n = bl g n := List.map_congr_left (fun i hi => h i (List.mem_range.1 hi))
theorem bf_bv (f : Nat → Bool) (n : Nat) : bf f n = bv (bl f n) := by
  unfold bf bv bl
  rw [List.map_map]; rfl
theorem bl_snoc (f : Nat → Bool) (n : Nat) : bl f (n + 1) = bl f n ++ [f n] := by
  unfold bl
  rw [List.range_succ, List.map_append]; rfl

end Go.Proofs.Ytibedfdgkknoiaa
