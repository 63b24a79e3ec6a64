/-
  A bit appended in a region that draws its order.
-/
import Derived.Test.YthdlljmcppndlaaRw
import Derived.Deep.RegionLaw
namespace Go.Proofs.Ythdlljmcppndlaa
open Go.RowKit

theorem step_appendBit {ops : Array Oper} {o : Oper} {a : Act} {w : World} {K : Act → World → Prop} {Q : Exit → Act → World → Prop} {E : Prop} (hgd : o.guard = none) (s x : Operand)
    (ho : o.op = .call { callee := .builtin .append, args := #[s, x], argTypes := #[23, 23] }) (w0 : World) (v : Value) (hs : a.eval s = v) (l : List Bool) (hown : OwnB w0 w v l) (q : Bool) (hx : a.eval x = .slice (some ⟨w.heap.size, 0, none⟩) 1 1) (hb : l.length + 1 ≤ 140737488355328)
    (h : ∀ v' w', Hid (OwnB w0 w' v' (l ++ [q])) → K (a.put o.dst v') w') :
    if Region.wanted o (yielded ops a.tmps) = true then Oper.wp Try.prog o a (w.alloc (.cells #[.bool q] 4)) K Q else E := by
  have hw : Region.wanted o (yielded ops a.tmps) = true := by simp [Region.wanted, hgd]
  rw [if_pos hw]
  obtain ⟨i0, hi, hz0, hz1, hz2⟩ := info_parts info4
  obtain ⟨he, hown⟩ := hown
  refine wp_append_own _ s x 23 ho w0.heap.size 4 i0 (.bool false) 1 1 Try.underlying23 hi hz0 hz1 hz2 rfl (by decide) v l.length (bv l) hs (hown.alloc _) ⟨w.heap.size, 0, none⟩ 1 1 [.bool q] hx rfl ?_ ?_ ?_ (by omega) ?_ ?_
  · exact cell_one_new _ _ _
  · intro u hu; simp at hu; subst hu; rfl
  · unfold maxLen; omega
  · have := he.size; simp; omega
  · intro v' w' hown' hgr _
    refine h v' w' ⟨?_, ?_⟩
    · have e1 : Ext w0 (w.alloc (.cells #[.bool q] 4)) := he.alloc _
      exact Below.grown e1 hgr e1.size (fun k hk => (hown.lt k hk).1)
    · simpa using hown'

end Go.Proofs.Ythdlljmcppndlaa
