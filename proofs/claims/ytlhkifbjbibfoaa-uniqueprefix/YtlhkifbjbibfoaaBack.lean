/-
  A list of words that a call makes, word by word, bit by bit: as a code.
-/
import Derived.Test.YtlhkifbjbibfoaaUni
import Derived.Test.YtlhkifbjbibfoaaRefPrefix
namespace Go.Proofs.Ytlhkifbjbibfoaa
open Go.RowKit

/-- x is a word that lies in a block of its own. -/
def LB (w : World) (x : Wd) : Prop := w.ownsRow 0 4 1 x.v x.l.length (x.l.map Value.bool)

theorem LB.ext {w w' : World} {x : Wd} (h : LB w x) (e : Ext w w') : LB w' x := ownsRow_mono h e
theorem LB.bits {w : World} {x : Wd} (h : LB w x) : Bits w x := by
  obtain ⟨xa, xc, xl⟩ := x
  have hown' := h
  obtain ⟨h1, h2⟩ := h
  rcases h2 with ⟨hv, h0⟩ | ⟨g, cap, cur, hv, hg, hh, hle, hm, hs, ht⟩
  · simp only at h0
    have : xl = [] := List.eq_nil_of_length_eq_zero h0
    subst this
    injection hv with e1 _ e2
    simp only at e1 e2
    subst e1 e2
    exact ⟨by simp, by simp, by simp, 0, 0, by simp, by simp⟩
  · injection hv with e1 _ e2
    simp only at e1 e2
    subst e1 e2
    refine ⟨hle, hm, by simp, g, 0, fun _ => rfl, fun i hi => ?_⟩
    have := World.ownsRow.cellAt hown' i (by simpa using hi)
    have hi' : i < xl.length := hi
    simpa [List.getD_eq_getElem?_getD, hi'] using this
theorem OwnB.lb {w0 w : World} {v : Value} {l : List Bool} (h : OwnB w0 w v l) : ∃ x : Wd, v = x.v ∧ x.l = l ∧ LB w x := by
  obtain ⟨_, h1, h2⟩ := h
  rcases h2 with ⟨rfl, h0⟩ | ⟨g, cap, cur, rfl, _, r⟩
  · have : l = [] := List.eq_nil_of_length_eq_zero h0
    subst this
    exact ⟨⟨none, 0, []⟩, rfl, rfl, World.ownsRow_nil _ _ _ _⟩
  · exact ⟨⟨some ⟨g, 0, none⟩, cap, l⟩, rfl, rfl, h1, Or.inr ⟨g, cap, cur, rfl, Nat.zero_le _, r⟩⟩

/-- v is a list of words that was made since w0, its words in blocks of their own. -/
structure OwnC (w0 w : World) (v : Value) (X : List Wd) : Prop where
  ext : Ext w0 w
  own : w.ownsRow w0.heap.size 34 1 v X.length (X.map Wd.v)
  ok : ∀ x ∈ X, LB w x

theorem OwnC.mono {w0 w w' : World} {v : Value} {X : List Wd} (h : OwnC w0 w v X) (e : Ext w w') : OwnC w0 w' v X := ⟨h.ext.trans e, ownsRow_mono h.own e, fun x hx => (h.ok x hx).ext e⟩
theorem OwnC.nil {w0 w : World} (h : Ext w0 w) : OwnC w0 w (.slice none 0 0) [] := ⟨h, World.ownsRow_nil _ _ _ _, fun r hr => by cases hr⟩
theorem OwnC.wds {w0 w : World} {v : Value} {X : List Wd} (h : OwnC w0 w v X) : ∃ a c, v = .slice a X.length c ∧ Wds w a c X := by
  have hown := h.own
  rcases h.own.2 with ⟨rfl, h0⟩ | ⟨g, cap, cur, rfl, hg, hh, hle, hm, hs, ht⟩
  · have : X = [] := List.eq_nil_of_length_eq_zero h0
    subst this
    exact ⟨none, 0, rfl, by simp, by simp, fun x hx => (by cases hx), 0, 0, by simp, by simp⟩
  · refine ⟨_, _, rfl, hle, hm, fun x hx => (h.ok x hx).bits, g, 0, fun _ => rfl, fun i hi => ?_⟩
    have := hown.cellAt i (by simpa using hi)
    simpa [hi] using this

theorem wpList_appendC {ops : Array Oper} {rest : List Oper} {o : Oper} {a : Act} {Q : Exit → Act → World → Prop} (hgd : o.guard = none) (s x : Operand)
    (ho : o.op = .call { callee := .builtin .append, args := #[s, x], argTypes := #[22, 22] }) (w0 W : World) (v : Value) (hs : a.eval s = v) (X : List Wd) (hX : OwnC w0 W v X)
    (y : Wd) (yv : Value) (hyv : yv = y.v) (k : Nat) (hx : a.eval x = .slice (some ⟨k, 0, none⟩) 1 1) (hk : k = W.heap.size) (hy : LB W y) (hl : X.length ≤ 10000)
    (K : ∀ v' w', OwnC w0 w' v' (X ++ [y]) → wpList Try.prog ops Q rest (a.put o.dst v') w') : wpList Try.prog ops Q (o :: rest) a (W.alloc (.cells #[yv] 34)) := by
  subst hyv hk
  obtain ⟨i0, hi, hz0, hz1, hz2⟩ := info_parts info34
  have hX' := hX.mono ((Ext.refl W).alloc (.cells #[y.v] 34))
  have hy' := hy.ext ((Ext.refl W).alloc (.cells #[y.v] 34))
  refine wpList_append_own _ hgd s x 22 ho w0.heap.size 34 i0 (.slice none 0 0) 1 24 Try.underlying22 hi hz0 hz1 hz2 rfl (by decide) v X.length (X.map Wd.v) hs hX'.own ⟨W.heap.size, 0, none⟩ 1 1 [y.v] hx rfl ?_ ?_ ?_ ?_ ?_ ?_
  · exact cell_one_new _ _ _
  · intro u hu; simp at hu; subst hu; rfl
  · unfold maxLen; omega
  · omega
  · exact hX'.ext.size
  · intro v' w' hown' hgr _
    refine K v' w' ⟨?_, ?_, ?_⟩
    · exact Below.grown hX'.ext hgr hX'.ext.size (fun k hk => (hX'.own.lt k hk).1)
    · simpa using hown'
    · have kept : ∀ {z : Wd}, LB (W.alloc (.cells #[y.v] 34)) z → LB w' z := fun hl => World.ownsRow.kept hl hgr (own_apart hl hX'.own (by decide))
      intro z hz
      rcases List.mem_append.1 hz with hz | hz
      · exact kept (hX'.ok z hz)
      · simp only [List.mem_singleton] at hz
        subst hz
        exact kept hy'

/-- The words turned round. -/
theorem back_take (l : List Bool) (k : Nat) (h : k < l.length) : (l.drop k).reverse = (l.drop (k + 1)).reverse ++ [l[k]] := by
  rw [List.drop_eq_getElem_cons h, List.reverse_cons]

end Go.Proofs.Ytlhkifbjbibfoaa
