/-
  Lists of words that a call itself makes by append; quipuref.Words.
-/
import Derived.Test.YtioaohcnlgbnnaaOwn
import Derived.Laws.OwnMore
import Derived.Laws.AppendOwnNone
namespace Go.Proofs.Ytioaohcnlgbnnaa
open Go.RowKit

theorem info22 : (Try.prog.info? 22).map (fun i => (i.zero, i.size, i.bytes)) = some (some (.int .u32 0), 1, 4) := by kernel_rfl

/-- Words, as the cells that hold them. -/
abbrev uv (z : List Nat) : List Value := z.map (fun x : Nat => Value.int .u32 (x : Int))

/-- v is a list of words z that was made since w0; all that lay in w0 lies as it lay. -/
def OwnU (w0 w : World) (v : Value) (z : List Nat) : Prop := Ext w0 w ∧ w.ownsRow w0.heap.size 22 1 v z.length (uv z)

theorem OwnU.nil {w0 w : World} (h : Ext w0 w) : OwnU w0 w (.slice none 0 0) [] := ⟨h, World.ownsRow_nil _ _ _ _⟩
theorem OwnU.ext {w0 w w' : World} {v : Value} {z : List Nat} (h : OwnU w0 w v z) (e : Ext w w') : OwnU w0 w' v z := ⟨h.1.trans e, ownsRow_ext h.2 e⟩

/-- Words one behind the other in memory. -/
structure Um where
  a : Option Addr
  c : Nat
  z : List Nat

abbrev Um.v (x : Um) : Value := .slice x.a x.z.length x.c

def Us (w : World) (x : Um) : Prop :=
  x.z.length ≤ x.c ∧ x.c ≤ maxLen ∧ (x.a = none → x.c = 0) ∧
    ∃ b o, (0 < x.z.length → x.a = some ⟨b, o, none⟩) ∧ ∀ i, i < x.z.length → w.cell? ⟨b, o + i, none⟩ = some (.int .u32 (x.z.getD i 0 : Nat))

theorem Us.ext {w w' : World} {x : Um} (h : Us w x) (e : Ext w w') : Us w' x := by
  obtain ⟨h1, h2, h0, b, o, h3, h4⟩ := h
  exact ⟨h1, h2, h0, b, o, h3, fun i hi => e.cell (h4 i hi)⟩

theorem OwnU.us {w0 w : World} {v : Value} {z : List Nat} (h : OwnU w0 w v z) : ∃ x : Um, v = x.v ∧ x.z = z ∧ Us w x := by
  obtain ⟨_, hown⟩ := h
  have hown' := hown
  obtain ⟨h1, h2⟩ := hown
  rcases h2 with ⟨rfl, h0⟩ | ⟨g, cap, cur, rfl, hg, hh, hle, hm, hs, ht⟩
  · have : z = [] := List.eq_nil_of_length_eq_zero h0
    subst this
    exact ⟨⟨none, 0, []⟩, rfl, rfl, by simp, by simp, by simp, 0, 0, by simp, by simp⟩
  · refine ⟨⟨some ⟨g, 0, none⟩, cap, z⟩, rfl, rfl, hle, hm, by simp, g, 0, fun _ => rfl, fun i hi => ?_⟩
    have hi' : i < z.length := hi
    have := hown'.cellAt i (by simpa using hi)
    simpa [List.getD_eq_getElem?_getD, hi'] using this

theorem wpList_appendU {ops : Array Oper} {rest : List Oper} {o : Oper} {a : Act} {Q : Exit → Act → World → Prop} (hgd : o.guard = none) (s x : Operand)
    (ho : o.op = .call { callee := .builtin .append, args := #[s, x], argTypes := #[27, 27] }) (w0 wr : World) (v : Value) (hs : a.eval s = v) (z : List Nat) (hown : OwnU w0 wr v z)
    (q : Nat) (hx : a.eval x = .slice (some ⟨wr.heap.size, 0, none⟩) 1 1) (hb : (z.length + 1) * 4 ≤ 140737488355328)
    (h : ∀ v' w', OwnU w0 w' v' (z ++ [q]) → wpList Try.prog ops Q rest (a.put o.dst v') w') : wpList Try.prog ops Q (o :: rest) a (wr.alloc (.cells #[.int .u32 (q : Int)] 22)) := by
  obtain ⟨i0, hi, hz0, hz1, hz2⟩ := info_parts info22
  obtain ⟨he, hown⟩ := hown
  refine wpList_append_own _ hgd s x 27 ho w0.heap.size 22 i0 (.int .u32 0) 1 4 Try.underlying27 hi hz0 hz1 hz2 rfl (by decide) v z.length (uv z) hs (hown.alloc _) ⟨wr.heap.size, 0, none⟩ 1 1 [.int .u32 (q : Int)] hx rfl ?_ ?_ ?_ hb ?_ ?_
  · exact cell_one_new _ _ _
  · intro u hu; simp at hu; subst hu; rfl
  · unfold maxLen; omega
  · have := he.size; simp; omega
  · intro v' w' hown' hgr _
    refine h v' w' ⟨?_, ?_⟩
    · have e1 : Ext w0 (wr.alloc (.cells #[.int .u32 (q : Int)] 22)) := he.alloc _
      exact Below.grown e1 hgr e1.size (fun k hk => (hown.lt k hk).1)
    · simpa using hown'

end Go.Proofs.Ytioaohcnlgbnnaa
