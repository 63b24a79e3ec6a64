/-
  A block that opens with numbers; lists of one's own that lie in such a block.
-/
import Derived.Test.YtencpkmojjbjcabKb
namespace Go.Proofs.Ytencpkmojjbjcab
open Go.RowKit

/-- A block that opens with these numbers. -/
abbrev RN (w : World) (g : Nat) (z : List Int) (rest : List Value) : Prop := Row w g 3 (iv z ++ rest)

theorem RN.cell {w : World} {g : Nat} {z : List Int} {rest : List Value} (h : RN w g z rest) (i : Nat) (hi : i < z.length) : w.cell? ⟨g, i, none⟩ = some (.int .i64 (z.getD i 0)) := by
  have := Row.cell h i (by simp; omega)
  rw [this, List.getElem_append_left (by simpa using hi)]
  simp [List.getD_eq_getElem?_getD, hi]
theorem RN.set {w : World} {g : Nat} {z : List Int} {rest : List Value} (h : RN w g z rest) (i : Nat) (hi : i < z.length) (v : Int) : RN (w.setCell ⟨g, i, none⟩ (.int .i64 v)) g (z.set i v) rest := by
  have := Row.set h i (.int .i64 v)
  rw [List.set_append, if_pos (by simpa using hi)] at this
  unfold RN iv
  rw [List.map_set]
  exact this
/-- A list of one's own has a block. -/
theorem OwnN.row {w0 w : World} {v : Value} {z : List Int} (h : OwnN w0 w v z) (h0 : 0 < z.length) : ∃ g cap rest, v = .slice (some ⟨g, 0, none⟩) z.length cap ∧ w0.heap.size ≤ g ∧ z.length ≤ cap ∧ cap ≤ maxLen ∧ RN w g z rest ∧ z.length + rest.length = cap := by
  obtain ⟨he, h1, h2⟩ := h
  rcases h2 with ⟨_, h2⟩ | ⟨g, cap, cur, rfl, hg, hh, hc, hm, hs, ht⟩
  · omega
  · rw [Nat.mul_one] at ht hs
    refine ⟨g, cap, cur.toList.drop z.length, rfl, hg, hc, hm, ?_, by simp; omega⟩
    show w.heap[g]? = _
    unfold iv
    rw [hh, ← ht, List.take_append_drop]
theorem OwnN.of_row {w0 w : World} {g cap : Nat} {z : List Int} {rest : List Value} (he : Ext w0 w) (hg : w0.heap.size ≤ g) (hr : RN w g z rest) (hl : z.length + rest.length = cap) (hm : cap ≤ maxLen) : OwnN w0 w (.slice (some ⟨g, 0, none⟩) z.length cap) z := by
  refine ⟨he, by simp, Or.inr ⟨g, cap, (iv z ++ rest).toArray, rfl, hg, hr, by omega, hm, by simp; omega, ?_⟩⟩
  simp

end Go.Proofs.Ytencpkmojjbjcab
