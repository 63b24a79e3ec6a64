/-
  Rows whose cells go by their number; quipuref.Span.
-/
import Derived.Test.YtdfjjjcaibadoabDoorSu
namespace Go.Proofs.YtdfjjjcaibadoabDoor
open Go.RowKit

theorem Row.setF {w : World} {B n k : Nat} {t : TypeId} {f : Nat → Value} (h : Row w B t ((List.range n).map f)) (v : Value) (g : Nat → Value) (hg : ∀ i, i < n → g i = if i = k then v else f i) : Row (w.setCell ⟨B, k, none⟩ v) B t ((List.range n).map g) := by
  have := h.set k v
  have e : ((List.range n).map f).set k v = (List.range n).map g := by
    apply List.ext_getElem
    · simp
    · intro i h1 h2
      simp at h1 h2
      rw [List.getElem_set]
      simp only [List.getElem_map, List.getElem_range]
      rw [hg i h2]
      by_cases hk : k = i
      · rw [if_pos hk, if_pos hk.symm]
      · rw [if_neg hk, if_neg (fun h => hk h.symm)]
  rw [e] at this
  exact this
theorem Row.madeF (w : World) (t : TypeId) (z : Value) (n : Nat) (f : Nat → Value) (hf : ∀ i, i < n → f i = z) : Row (w.alloc (.cells (madeCells #[z] n) t)) w.heap.size t ((List.range n).map f) := by
  have := Row.made w t z n
  have e : (List.range n).map f = List.replicate n z := by
    apply List.ext_getElem
    · simp
    · intro i h1 h2
      simp at h1
      simp [hf i h1]
  rw [e]
  exact this
theorem Row.cellF {w : World} {B n : Nat} {t : TypeId} {f : Nat → Value} (h : Row w B t ((List.range n).map f)) (k : Nat) (hk : k < n) : w.cell? ⟨B, k, none⟩ = some (f k) := by
  have := h.cell k (by simpa using hk)
  simpa using this

theorem info4 : (Tryd.prog.info? 4).map (fun i => (i.zero, i.size, i.bytes)) = some (some (.bool false), 1, 1) := by kernel_rfl

theorem wrap_pow : ∀ m : Fin 13, wrap64 ((2 : Int) ^ m.val) = ((2 ^ m.val : Nat) : Int) := by decide +kernel

theorem OwnU.base {w w0 w' : World} {v : Value} {z : List Nat} (h : OwnU w0 w' v z) (e : Ext w w0) : OwnU w w' v z := by
  obtain ⟨h1, h2, h3⟩ := h
  refine ⟨e.trans h1, h2, ?_⟩
  rcases h3 with h3 | ⟨g, cap, cur, hv, hg, r⟩
  · exact Or.inl h3
  · exact Or.inr ⟨g, cap, cur, hv, Nat.le_trans e.size hg, r⟩

/-- Whether one of the first k choices makes the word. -/
def hit (F : Nat → Nat) (k i : Nat) : Bool := (List.range k).any (fun s => F s == i)
theorem hit_zero (F : Nat → Nat) (i : Nat) : hit F 0 i = false := rfl
theorem hit_next (F : Nat → Nat) (k i : Nat) : hit F (k + 1) i = (hit F k i || (F k == i)) := by
  unfold hit
  rw [List.range_succ, List.any_append]
  simp

/-- The words below k that are told. -/
def upTo (p : Nat → Bool) (k : Nat) : List Nat := (List.range k).filter p
theorem upTo_zero (p : Nat → Bool) : upTo p 0 = [] := rfl
theorem upTo_yes {p : Nat → Bool} {k : Nat} (h : p k = true) : upTo p (k + 1) = upTo p k ++ [k] := by
  unfold upTo
  rw [List.range_succ, List.filter_append]
  simp [h]
theorem upTo_no {p : Nat → Bool} {k : Nat} (h : p k = false) : upTo p (k + 1) = upTo p k := by
  unfold upTo
  rw [List.range_succ, List.filter_append]
  simp [h]
theorem upTo_few (p : Nat → Bool) (k : Nat) : (upTo p k).length ≤ k := by
  have := List.length_filter_le p (List.range k)
  rw [List.length_range] at this
  exact this


end Go.Proofs.YtdfjjjcaibadoabDoor
