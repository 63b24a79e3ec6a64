/-
  Numbers appended.
-/
import Derived.Test.YtjdipgkdaloclaaDoorOwn
import Derived.Laws.OwnMore
import Derived.Laws.AppendOwnNone
namespace Go.Proofs.YtjdipgkdaloclaaDoor
open Go.RowKit

theorem wpList_appendNum {ops : Array Oper} {rest : List Oper} {o : Oper} {a : Act} {Q : Exit → Act → World → Prop} (hgd : o.guard = none) (s x : Operand)
    (ho : o.op = .call { callee := .builtin .append, args := #[s, x], argTypes := #[22, 22] }) (w0 wr : World) (v : Value) (hs : a.eval s = v) (z : List Int) (hown : OwnN w0 wr v z)
    (q : Int) (hx : a.eval x = .slice (some ⟨wr.heap.size, 0, none⟩) 1 1) (hb : (z.length + 1) * 8 ≤ 140737488355328)
    (h : ∀ v' w', OwnN w0 w' v' (z ++ [q]) → wpList Tryd.prog ops Q rest (a.put o.dst v') w') : wpList Tryd.prog ops Q (o :: rest) a (wr.alloc (.cells #[.int .i64 q] 3)) := by
  obtain ⟨i0, hi, hz0, hz1, hz2⟩ := info_parts info3
  obtain ⟨he, hown⟩ := hown
  refine wpList_append_own _ hgd s x 22 ho w0.heap.size 3 i0 (.int .i64 0) 1 8 Tryd.underlying22 hi hz0 hz1 hz2 rfl (by decide) v z.length (z.map (Value.int .i64)) hs (hown.alloc _) ⟨wr.heap.size, 0, none⟩ 1 1 [.int .i64 q] hx rfl ?_ ?_ ?_ hb ?_ ?_
  · exact cell_one_new _ _ _
  · intro u hu; simp at hu; subst hu; rfl
  · unfold maxLen; omega
  · have := he.size; simp; omega
  · intro v' w' hown' hgr _
    refine h v' w' ⟨?_, ?_⟩
    · have e1 : Ext w0 (wr.alloc (.cells #[.int .i64 q] 3)) := he.alloc _
      exact Below.grown e1 hgr e1.size (fun k hk => (hown.lt k hk).1)
    · simpa using hown'

theorem wpList_appendNums {ops : Array Oper} {rest : List Oper} {o : Oper} {a : Act} {Q : Exit → Act → World → Prop} (hgd : o.guard = none) (s x : Operand)
    (ho : o.op = .call { callee := .builtin .append, args := #[s, x], argTypes := #[22, 22] }) (w0 wr : World) (v : Value) (hs : a.eval s = v) (z : List Int) (hown : OwnN w0 wr v z)
    (y : Nm) (hx : a.eval x = y.v) (hy : Nums wr y) (hb : (z.length + y.z.length) * 8 ≤ 140737488355328)
    (h : ∀ v' w', OwnN w0 w' v' (z ++ y.z) → wpList Tryd.prog ops Q rest (a.put o.dst v') w') : wpList Tryd.prog ops Q (o :: rest) a wr := by
  obtain ⟨i0, hi, hz0, hz1, hz2⟩ := info_parts info3
  obtain ⟨he, hown⟩ := hown
  obtain ⟨y1, y2, y0, b, off, y3, y4⟩ := hy
  obtain ⟨ya, yc, yl⟩ := y
  simp only [Nm.v] at hx y0 y1 y2 y3 y4 h hb
  cases ya with
  | none =>
    have hyc := y0 rfl
    have : yl = [] := List.eq_nil_of_length_eq_zero (by omega)
    subst this
    subst hyc
    refine wpList_append_own_none hgd s x 22 ho w0.heap.size 3 i0 1 Tryd.underlying22 hi v z.length (z.map (Value.int .i64)) hs hown hx (h v wr ?_)
    rw [List.append_nil]
    exact ⟨he, hown⟩
  | some ad =>
    refine wpList_append_own wr hgd s x 22 ho w0.heap.size 3 i0 (.int .i64 0) 1 8 Tryd.underlying22 hi hz0 hz1 hz2 rfl (by decide) v z.length (z.map (Value.int .i64)) hs hown ad yl.length yc (yl.map (Value.int .i64)) hx (by simp) ?_ ?_ ?_ (by omega) he.size ?_
    · intro j u hj
      have hj' : j < yl.length := by
        rcases Nat.lt_or_ge j yl.length with h' | h'
        · exact h'
        · rw [List.getElem?_eq_none (by simpa using h')] at hj; cases hj
      have had := y3 (by omega)
      simp only [Option.some.injEq] at had
      subst had
      rw [Addr.add_lit, y4 j hj']
      simp [hj'] at hj
      simp [List.getD_eq_getElem?_getD, hj', hj]
    · intro u hu
      obtain ⟨q, _, rfl⟩ := List.mem_map.1 hu
      rfl
    · unfold maxLen; omega
    · intro v' w' hown' hgr _
      refine h v' w' ⟨?_, ?_⟩
      · exact Below.grown he hgr he.size (fun k hk => (hown.lt k hk).1)
      · rw [List.length_append, List.map_append]
        exact hown'

end Go.Proofs.YtjdipgkdaloclaaDoor
