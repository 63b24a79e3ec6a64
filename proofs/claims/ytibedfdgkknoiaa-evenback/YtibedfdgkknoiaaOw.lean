/-
  Lists of bits that a call itself makes by append, bit by bit; a block that opens with bits.
-/
import Derived.Test.YtibedfdgkknoiaaOwn
import Derived.Laws.OwnMore
namespace Go.Proofs.Ytibedfdgkknoiaa
open Go.RowKit

abbrev bv (l : List Bool) : List Value := l.map Value.bool

theorem OwnB.ext {w0 w w' : World} {v : Value} {l : List Bool} (h : OwnB w0 w v l) (e : Ext w w') : OwnB w0 w' v l := ⟨h.1.trans e, ownsRow_ext h.2 e⟩
theorem OwnB.base {w w1 w2 : World} {v : Value} {l : List Bool} (e : Ext w w1) (h : OwnB w1 w2 v l) : OwnB w w2 v l := by
  obtain ⟨h1, h2, h3⟩ := h
  refine ⟨e.trans h1, h2, ?_⟩
  rcases h3 with h3 | ⟨g, cap, cur, hv, hg, r⟩
  · exact .inl h3
  · exact .inr ⟨g, cap, cur, hv, Nat.le_trans e.size hg, r⟩
theorem OwnB.form {w0 w : World} {v : Value} {l : List Bool} (h : OwnB w0 w v l) : ∃ a c, v = .slice a l.length c := by
  obtain ⟨_, _, h2⟩ := h
  rcases h2 with ⟨rfl, h0⟩ | ⟨g, cap, cur, rfl, _⟩
  · exact ⟨none, 0, by rw [h0]⟩
  · exact ⟨_, _, rfl⟩
theorem OwnB.empty (w : World) : OwnB w (w.alloc (.cells #[] 4)) (.slice (some ⟨w.heap.size, 0, none⟩) 0 0) [] :=
  ⟨(Ext.refl w).alloc _, rfl, Or.inr ⟨w.heap.size, 0, #[], rfl, Nat.le_refl _, heap_alloc_new _ _, Nat.le_refl _, by simp, rfl, rfl⟩⟩

theorem wpList_appendBit {ops : Array Oper} {rest : List Oper} {o : Oper} {a : Act} {Q : Exit → Act → World → Prop} (hgd : o.guard = none) (s x : Operand)
    (ho : o.op = .call { callee := .builtin .append, args := #[s, x], argTypes := #[22, 22] }) (w0 wr : World) (v : Value) (hs : a.eval s = v) (l : List Bool) (hown : OwnB w0 wr v l)
    (q : Bool) (hx : a.eval x = .slice (some ⟨wr.heap.size, 0, none⟩) 1 1) (hb : l.length + 1 ≤ 140737488355328)
    (h : ∀ v' w', OwnB w0 w' v' (l ++ [q]) → wpList Try.prog ops Q rest (a.put o.dst v') w') : wpList Try.prog ops Q (o :: rest) a (wr.alloc (.cells #[.bool q] 4)) := by
  obtain ⟨i0, hi, hz0, hz1, hz2⟩ := info_parts info4
  obtain ⟨he, hown⟩ := hown
  refine wpList_append_own _ hgd s x 22 ho w0.heap.size 4 i0 (.bool false) 1 1 Try.underlying22 hi hz0 hz1 hz2 rfl (by decide) v l.length (bv l) hs (hown.alloc _) ⟨wr.heap.size, 0, none⟩ 1 1 [.bool q] hx rfl ?_ ?_ ?_ (by omega) ?_ ?_
  · exact cell_one_new _ _ _
  · intro u hu; simp at hu; subst hu; rfl
  · unfold maxLen; omega
  · have := he.size; simp; omega
  · intro v' w' hown' hgr _
    refine h v' w' ⟨?_, ?_⟩
    · have e1 : Ext w0 (wr.alloc (.cells #[.bool q] 4)) := he.alloc _
      exact Below.grown e1 hgr e1.size (fun k hk => (hown.lt k hk).1)
    · simpa using hown'

/-- An operation whose guard is met goes as if it had none. -/
theorem wpList_met {P : Program} {ops : Array Oper} {Q : Exit → Act → World → Prop} {a : Act} {w : World} {rest : List Oper} {o : Oper}
    (hw : Region.wanted o (yielded ops a.tmps) = true) (h : wpList P ops Q ({ o with guard := none } :: rest) a w) : wpList P ops Q (o :: rest) a w := by
  simp only [wpList, hw]
  simp only [wpList, show Region.wanted { o with guard := none } (yielded ops a.tmps) = true from rfl] at h
  exact h

/-- A block that opens with these bits. -/
abbrev RB (w : World) (g : Nat) (l : List Bool) (rest : List Value) : Prop := Row w g 4 (bv l ++ rest)

theorem RB.cell {w : World} {g : Nat} {l : List Bool} {rest : List Value} (h : RB w g l rest) (i : Nat) (hi : i < l.length) : w.cell? ⟨g, i, none⟩ = some (.bool (l.getD i false)) := by
  have := Row.cell h i (by simp; omega)
  rw [this, List.getElem_append_left (by simpa using hi)]
  simp [List.getD_eq_getElem?_getD, hi]
theorem RB.set {w : World} {g : Nat} {l : List Bool} {rest : List Value} (h : RB w g l rest) (i : Nat) (hi : i < l.length) (v : Bool) : RB (w.setCell ⟨g, i, none⟩ (.bool v)) g (l.set i v) rest := by
  have := Row.set h i (.bool v)
  rw [List.set_append, if_pos (by simpa using hi)] at this
  unfold RB bv
  rw [List.map_set]
  exact this
theorem RB.bits {w : World} {g cap : Nat} {l : List Bool} {rest : List Value} (h : RB w g l rest) (hl : l.length + rest.length = cap) (hm : cap ≤ maxLen) : Bits w ⟨some ⟨g, 0, none⟩, cap, l⟩ :=
  ⟨by show l.length ≤ cap; omega, hm, by simp, g, 0, fun _ => rfl, fun i hi => by rw [Nat.zero_add]; exact h.cell i hi⟩
/-- A list of one's own has a block. -/
theorem OwnB.row {w0 w : World} {v : Value} {l : List Bool} (h : OwnB w0 w v l) (h0 : 0 < l.length) : ∃ g cap rest, v = .slice (some ⟨g, 0, none⟩) l.length cap ∧ w0.heap.size ≤ g ∧ l.length ≤ cap ∧ cap ≤ maxLen ∧ RB w g l rest ∧ l.length + rest.length = cap := by
  obtain ⟨he, h1, h2⟩ := h
  rcases h2 with ⟨_, h2⟩ | ⟨g, cap, cur, rfl, hg, hh, hc, hm, hs, ht⟩
  · omega
  · rw [Nat.mul_one] at ht hs
    refine ⟨g, cap, cur.toList.drop l.length, rfl, hg, hc, hm, ?_, by simp; omega⟩
    show w.heap[g]? = _
    unfold bv
    rw [hh, ← ht, List.take_append_drop]
theorem OwnB.of_row {w0 w : World} {g cap : Nat} {l : List Bool} {rest : List Value} (he : Ext w0 w) (hg : w0.heap.size ≤ g) (hr : RB w g l rest) (hl : l.length + rest.length = cap) (hm : cap ≤ maxLen) : OwnB w0 w (.slice (some ⟨g, 0, none⟩) l.length cap) l := by
  refine ⟨he, by simp, Or.inr ⟨g, cap, (bv l ++ rest).toArray, rfl, hg, hr, by omega, hm, by simp; omega, ?_⟩⟩
  simp

/-- Bits in memory that have a place have an address. -/
theorem Bits.some {w : World} {x : Wd} (h : Bits w x) (h0 : 0 < x.l.length) : ∃ p, x.v = .slice (some p) x.l.length x.c := by
  obtain ⟨h1, h2, h3, _⟩ := h
  cases ha : x.a with
  | none => have := h3 ha; omega
  | some p => exact ⟨p, by rw [Wd.v, ha]⟩

end Go.Proofs.Ytibedfdgkknoiaa
