/-
  Lists of numbers that a call itself makes by append; rows of cells that a call itself makes, reads and writes.
-/
import Derived.Test.YtibedfdgkknoiaaApp
import Derived.Deep.OwnRows
namespace Go.Proofs.Ytibedfdgkknoiaa
open Go.RowKit

theorem info3 : (Try.prog.info? 3).map (fun i => (i.zero, i.size, i.bytes)) = some (some (.int .i64 0), 1, 8) := by kernel_rfl

theorem ownsRow_ext {w w' : World} {base : Nat} {e : TypeId} {v : Value} {n : Nat} {xs : List Value} (h : w.ownsRow base e 1 v n xs) (e1 : Ext w w') : w'.ownsRow base e 1 v n xs := by
  obtain ⟨h1, h2⟩ := h
  refine ⟨h1, ?_⟩
  rcases h2 with h2 | ⟨g, cap, cur, hv, hg, hh, r⟩
  · exact Or.inl h2
  · refine Or.inr ⟨g, cap, cur, hv, hg, ?_, r⟩
    rw [e1.block g ?_]
    · exact hh
    · rcases Nat.lt_or_ge g w.heap.size with h | h
      · exact h
      · rw [Array.getElem?_eq_none h] at hh; cases hh

/-- v is a list of numbers z that was made since w0; all that lay in w0 lies as it lay. -/
def OwnN (w0 w : World) (v : Value) (z : List Int) : Prop := Ext w0 w ∧ w.ownsRow w0.heap.size 3 1 v z.length (z.map (Value.int .i64))

theorem OwnN.nil {w0 w : World} (h : Ext w0 w) : OwnN w0 w (.slice none 0 0) [] := ⟨h, World.ownsRow_nil _ _ _ _⟩

theorem OwnN.ext {w0 w w' : World} {v : Value} {z : List Int} (h : OwnN w0 w v z) (e : Ext w w') : OwnN w0 w' v z := ⟨h.1.trans e, ownsRow_ext h.2 e⟩

theorem OwnN.form {w0 w : World} {v : Value} {z : List Int} (h : OwnN w0 w v z) : ∃ a c, v = .slice a z.length c := by
  obtain ⟨_, _, h2⟩ := h
  rcases h2 with ⟨rfl, h0⟩ | ⟨g, cap, cur, rfl, _⟩
  · exact ⟨none, 0, by rw [h0]⟩
  · exact ⟨_, _, rfl⟩

theorem OwnN.nums {w0 w : World} {v : Value} {z : List Int} (h : OwnN w0 w v z) : ∃ x : Nm, v = x.v ∧ x.z = z ∧ Nums w x := by
  obtain ⟨_, hown⟩ := h
  have hown' := hown
  obtain ⟨h1, h2⟩ := hown
  rcases h2 with ⟨rfl, h0⟩ | ⟨g, cap, cur, rfl, hg, hh, hle, hm, hs, ht⟩
  · have : z = [] := List.eq_nil_of_length_eq_zero h0
    subst this
    exact ⟨⟨none, 0, []⟩, rfl, rfl, by simp, by simp, by simp, 0, 0, by simp, by simp⟩
  · refine ⟨⟨some ⟨g, 0, none⟩, cap, z⟩, rfl, rfl, hle, hm, by simp, g, 0, fun _ => rfl, fun i hi => ?_⟩
    have := hown'.cellAt i (by simpa using hi)
    have hi' : i < z.length := hi
    simpa [List.getD_eq_getElem?_getD, hi'] using this

/-- The block B is a row of just these cells, none of them frozen. -/
def Row (w : World) (B : Nat) (t : TypeId) (l : List Value) : Prop := w.heap[B]? = some (.cells l.toArray t (0, 0))

theorem Row.lt {w : World} {B : Nat} {t : TypeId} {l : List Value} (h : Row w B t l) : B < w.heap.size := lt_of_block h
theorem Row.cell {w : World} {B : Nat} {t : TypeId} {l : List Value} (h : Row w B t l) (i : Nat) (hi : i < l.length) : w.cell? ⟨B, i, none⟩ = some l[i] := by
  rw [cell_of_row w B i l.toArray t (0, 0) h]
  simp [hi]
theorem Row.fr {w : World} {B : Nat} {t : TypeId} {l : List Value} (h : Row w B t l) (i : Nat) : w.frozen? ⟨B, i, none⟩ = false := frozen_of_row w B i _ t h
theorem Row.set {w : World} {B : Nat} {t : TypeId} {l : List Value} (h : Row w B t l) (i : Nat) (u : Value) : Row (w.setCell ⟨B, i, none⟩ u) B t (l.set i u) := by
  have := heap_setCell_same w B i l.toArray t u h
  show (w.setCell ⟨B, i, none⟩ u).heap[B]? = _
  rw [this]
  simp
theorem Row.other {w : World} {B : Nat} {t : TypeId} {l : List Value} (h : Row w B t l) (p : Addr) (hp : p.block ≠ B) (u : Value) : Row (w.setCell p u) B t l := by
  show (w.setCell p u).heap[B]? = _
  rw [Below.heap_setCell _ _ _ _ (fun e => hp e.symm)]
  exact h
theorem Row.ext {w w' : World} {B : Nat} {t : TypeId} {l : List Value} (h : Row w B t l) (e : Ext w w') : Row w' B t l := by
  show w'.heap[B]? = _
  rw [e.block B h.lt]
  exact h
theorem Row.made (w : World) (t : TypeId) (z : Value) (n : Nat) : Row (w.alloc (.cells (madeCells #[z] n) t)) w.heap.size t (List.replicate n z) := by
  show (w.alloc _).heap[w.heap.size]? = _
  rw [heap_alloc_new]
  congr 2
  rw [← toList_madeCells_one z n]

/-- A row of numbers of one's own, as a list of numbers. -/
theorem Row.nums {w : World} {B : Nat} {z : List Int} (h : Row w B 3 (z.map (Value.int .i64))) (hm : z.length ≤ maxLen) : Nums w ⟨some ⟨B, 0, none⟩, z.length, z⟩ := by
  refine ⟨Nat.le_refl _, hm, by simp, B, 0, fun _ => rfl, fun i hi => ?_⟩
  have hi' : i < z.length := hi
  have := h.cell i (by simpa using hi')
  simpa [List.getD_eq_getElem?_getD, hi'] using this
/-- A row of bits of one's own, as a word. -/
theorem Row.bits {w : World} {B : Nat} {l : List Bool} (h : Row w B 4 (l.map Value.bool)) (hm : l.length ≤ maxLen) : Bits w ⟨some ⟨B, 0, none⟩, l.length, l⟩ := by
  refine ⟨Nat.le_refl _, hm, by simp, B, 0, fun _ => rfl, fun i hi => ?_⟩
  have hi' : i < l.length := hi
  have := h.cell i (by simpa using hi')
  simpa [List.getD_eq_getElem?_getD, hi'] using this
/-- A row of words of one's own, as a code. -/
theorem Row.wds {w : World} {B : Nat} {g : List Wd} (h : Row w B 22 (g.map Wd.v)) (hm : g.length ≤ maxLen) (hb : ∀ x ∈ g, Bits w x) : Wds w (some ⟨B, 0, none⟩) g.length g := by
  refine ⟨Nat.le_refl _, hm, hb, B, 0, fun _ => rfl, fun i hi => ?_⟩
  have := h.cell i (by simpa using hi)
  simpa using this

/-- A store into a block that was made since. -/
theorem Ext.setCell {a w : World} (h : Ext a w) {p : Addr} (hp : a.heap.size ≤ p.block) (u : Value) : Ext a (w.setCell p u) := Below.setCell h hp u

end Go.Proofs.Ytibedfdgkknoiaa
