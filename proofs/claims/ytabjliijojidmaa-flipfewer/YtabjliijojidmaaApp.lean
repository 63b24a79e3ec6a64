/-
  A list of bytes that a call itself makes by append: what it holds, and that it becomes a word of bytes.
-/
import Derived.Test.YtabjliijojidmaaChecked
import Derived.Test.YtabjliijojidmaaBase
import Derived.Laws.AppendOwnNone
namespace Go.Proofs.Ytabjliijojidmaa
open Go.RowKit

theorem info5 : (Try.prog.info? 5).map (fun i => (i.zero, i.size, i.bytes)) = some (some (.int .u8 0), 1, 1) := by kernel_rfl

/-- v is a list of bytes l that was made since w0; all that lay in w0 lies as it lay. -/
def OwnB (w0 w : World) (v : Value) (l : List Int) : Prop := Ext w0 w ∧ w.ownsRow w0.heap.size 5 1 v l.length (l.map (Value.int .u8))

theorem OwnB.nil {w0 w : World} (h : Ext w0 w) : OwnB w0 w (.slice none 0 0) [] := ⟨h, World.ownsRow_nil _ _ _ _⟩

theorem OwnB.bits {w0 w : World} {v : Value} {l : List Int} (h : OwnB w0 w v l) : ∃ x : Wd, v = x.v ∧ x.l = l ∧ Bits w x := by
  obtain ⟨_, hown⟩ := h
  have hown' := hown
  obtain ⟨h1, h2⟩ := hown
  rcases h2 with ⟨rfl, h0⟩ | ⟨g, cap, cur, rfl, hg, hh, hle, hm, hs, ht⟩
  · have : l = [] := List.eq_nil_of_length_eq_zero h0
    subst this
    exact ⟨⟨none, 0, []⟩, rfl, rfl, by simp, by simp, by simp, 0, 0, by simp, by simp⟩
  · refine ⟨⟨some ⟨g, 0, none⟩, cap, l⟩, rfl, rfl, hle, hm, by simp, g, 0, fun _ => rfl, fun i hi => ?_⟩
    have := hown'.cellAt i (by simpa using hi)
    have hi' : i < l.length := hi
    simpa [List.getD_eq_getElem?_getD, hi'] using this

end Go.Proofs.Ytabjliijojidmaa
