/-
  A list of bits that a call itself makes by append: what it holds, and that it becomes a word of bits.
-/
import Derived.Test.YtibedfdgkknoiaaChecked
import Derived.Test.YtibedfdgkknoiaaBase
import Derived.Laws.AppendOwnNone
namespace Go.Proofs.Ytibedfdgkknoiaa
open Go.RowKit

theorem info4 : (Try.prog.info? 4).map (fun i => (i.zero, i.size, i.bytes)) = some (some (.bool false), 1, 1) := by kernel_rfl

/-- v is a list of bits l that was made since w0; all that lay in w0 lies as it lay. -/
def OwnB (w0 w : World) (v : Value) (l : List Bool) : Prop := Ext w0 w ∧ w.ownsRow w0.heap.size 4 1 v l.length (l.map Value.bool)

theorem OwnB.nil {w0 w : World} (h : Ext w0 w) : OwnB w0 w (.slice none 0 0) [] := ⟨h, World.ownsRow_nil _ _ _ _⟩

theorem OwnB.bits {w0 w : World} {v : Value} {l : List Bool} (h : OwnB w0 w v l) : ∃ x : Wd, v = x.v ∧ x.l = l ∧ Bits w x := by
  obtain ⟨_, hown⟩ := h
  have hown' := hown
  obtain ⟨h1, h2⟩ := hown
  rcases h2 with ⟨rfl, h0⟩ | ⟨g, cap, cur, rfl, hg, hh, hle, hm, hs, ht⟩
  · have : l = [] := List.eq_nil_of_length_eq_zero h0
    subst this
    exact ⟨⟨none, 0, []⟩, rfl, rfl, by simp, by simp, by simp, 0, 0, by simp, by simp⟩
  · refine ⟨⟨some ⟨g, 0, none⟩, cap, l⟩, rfl, rfl, hle, hm, by simp, g, 0, fun _ => rfl, fun i hi => ?_⟩
    have := hown'.cellAt i (by simpa using hi)
    have hi' : i < l.length := hi
    simpa [List.getD_eq_getElem?_getD, hi'] using this

theorem wpList_appendBits {ops : Array Oper} {rest : List Oper} {o : Oper} {a : Act} {Q : Exit → Act → World → Prop} (hgd : o.guard = none) (s x : Operand)
    (ho : o.op = .call { callee := .builtin .append, args := #[s, x], argTypes := #[22, 22] }) (w0 wr : World) (v : Value) (hs : a.eval s = v) (l : List Bool) (hown : OwnB w0 wr v l)
    (y : Wd) (hx : a.eval x = y.v) (hy : Bits wr y) (hb : l.length + y.l.length ≤ 140737488355328)
    (h : ∀ v' w', OwnB w0 w' v' (l ++ y.l) → wpList Try.prog ops Q rest (a.put o.dst v') w') : wpList Try.prog ops Q (o :: rest) a wr := by
  obtain ⟨i0, hi, hz0, hz1, hz2⟩ := info_parts info4
  obtain ⟨he, hown⟩ := hown
  obtain ⟨y1, y2, y0, b, off, y3, y4⟩ := hy
  obtain ⟨ya, yc, yl⟩ := y
  simp only [Wd.v] at hx y0 y1 y2 y3 y4 h hb
  cases ya with
  | none =>
    have hyc := y0 rfl
    have : yl = [] := List.eq_nil_of_length_eq_zero (by omega)
    subst this
    subst hyc
    refine wpList_append_own_none hgd s x 22 ho w0.heap.size 4 i0 1 Try.underlying22 hi v l.length (l.map Value.bool) hs hown hx (h v wr ?_)
    rw [List.append_nil]
    exact ⟨he, hown⟩
  | some ad =>
    refine wpList_append_own wr hgd s x 22 ho w0.heap.size 4 i0 (.bool false) 1 1 Try.underlying22 hi hz0 hz1 hz2 rfl (by decide) v l.length (l.map Value.bool) hs hown ad yl.length yc (yl.map Value.bool) hx (by simp) ?_ ?_ ?_ (by omega) he.size ?_
    · intro j u hj
      have hj' : j < yl.length := by
        rcases Nat.lt_or_ge j yl.length with h' | h'
        · exact h'
        · rw [List.getElem?_eq_none (by simpa using h')] at hj; cases hj
      have had := y3 (by omega)
      simp only [Option.some.injEq] at had
      subst had
      rw [Addr.add_lit, y4 j hj']
      simp [hj'] at hj
      simp [List.getD_eq_getElem?_getD, hj', hj]
    · intro u hu
      obtain ⟨q, _, rfl⟩ := List.mem_map.1 hu
      rfl
    · unfold maxLen; omega
    · intro v' w' hown' hgr _
      refine h v' w' ⟨?_, ?_⟩
      · exact Below.grown he hgr he.size (fun k hk => (hown.lt k hk).1)
      · rw [List.length_append, List.map_append]
        exact hown'

end Go.Proofs.Ytibedfdgkknoiaa
