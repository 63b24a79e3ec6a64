/-
  append of a list of words to an own one, in a region that draws its order.
-/
import Derived.Test.YtdfjjjcaibadoaaOw
import Derived.Deep.RegionLaw
namespace Go.Proofs.Ytdfjjjcaibadoaa
open Go.RowKit

theorem step_appendUs {ops : Array Oper} {o : Oper} {a : Act} {w : World} {K : Act → World → Prop} {Q : Exit → Act → World → Prop} {E : Prop} (hgd : o.guard = none) (s x : Operand)
    (ho : o.op = .call { callee := .builtin .append, args := #[s, x], argTypes := #[22, 22] }) (w0 : World) (v : Value) (hs : a.eval s = v) (l : List Nat) (hown : OwnU w0 w v l) (y : Um) (yv : Value) (hyv : yv = y.v) (hx : a.eval x = yv) (hy : Us w y) (hb : l.length + y.z.length ≤ 100000)
    (h : ∀ z w', Hid (OwnU w0 w' (Um.v z) (l ++ y.z)) → Hid (z.z = l ++ y.z) → Hid (Us w' z) → K (a.put o.dst (Value.slice z.a z.z.length z.c)) w') :
    if Region.wanted o (yielded ops a.tmps) = true then Oper.wp Try.prog o a w K Q else E := by
  have hw : Region.wanted o (yielded ops a.tmps) = true := by simp [Region.wanted, hgd]
  rw [if_pos hw]
  subst hyv
  obtain ⟨i0, hi, hz0, hz1, hz2⟩ := info_parts info33
  have fin : ∀ v' w', OwnU w0 w' v' (l ++ y.z) → K (a.put o.dst v') w' := fun v' w' hO => by
    obtain ⟨z, rfl, hz, hu⟩ := hO.us
    exact h z w' hO hz hu
  obtain ⟨a1, c1, g⟩ := y
  obtain ⟨h1, h2, h0, b, oo, h4, h5⟩ := hy
  simp only at h1 h2 h0 h4 h5 hb fin
  cases a1 with
  | none =>
    have hc : c1 = 0 := h0 rfl
    subst hc
    have hg : g = [] := List.eq_nil_of_length_eq_zero (by omega)
    subst hg
    have hrun := run_append_owned_none (P := Try.prog) (w := w) w0.heap.size 22 o.type 33 i0 1 Try.underlying22 hi v l.length (uv l) hown.2
    have fin' := fin v w (by rw [List.append_nil]; exact hown)
    have hx0 : a.eval x = .slice none 0 0 := hx
    unfold Oper.wp
    simp [execOp, ho, resolve, invoke, builtin, hs, hx0, hrun, Result.andThen]
    exact fin'
  | some ad =>
    refine wp_append_own _ s x 22 ho w0.heap.size 33 i0 (.int .u32 0) 1 4 Try.underlying22 hi hz0 hz1 hz2 rfl (by decide) v l.length (uv l) hs hown.2 ad g.length c1 (uv g) hx (by simp) ?_ ?_ ?_ (by omega) hown.1.size ?_
    · intro j u hj
      have hjl : j < g.length := by
        have := (List.getElem?_eq_some_iff.1 hj).1
        simpa using this
      have := h5 j hjl
      have ha := h4 (by omega)
      injection ha with ha
      subst ha
      rw [Addr.add_lit]
      rw [this]
      rw [List.getElem?_map, List.getElem?_eq_getElem hjl] at hj
      simp at hj
      rw [← hj]
      simp [List.getD_eq_getElem?_getD, hjl]
    · intro u hu
      obtain ⟨q, _, rfl⟩ := List.mem_map.1 hu
      rfl
    · unfold maxLen; omega
    · intro v' w' hown' hgr _
      refine fin v' w' ⟨?_, ?_⟩
      · exact Below.grown hown.1 hgr hown.1.size (fun k hk => (hown.2.lt k hk).1)
      · rw [List.length_append]
        simpa using hown'

end Go.Proofs.Ytdfjjjcaibadoaa
