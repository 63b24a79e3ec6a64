/-
  Lists of words that a call itself makes by append, each of them made just now.
-/
import Derived.Test.YtglajpmifhecgaaOw
import Derived.Deep.AppendLies
namespace Go.Proofs.Ytglajpmifhecgaa
open Go.RowKit
set_option linter.unusedVariables false

theorem info22 : (Try.prog.info? 22).map (fun i => (i.zero, i.size, i.bytes)) = some (some (.slice none 0 0), 1, 24) := by kernel_rfl

theorem Bits.grown {w w' : World} {row : Option Nat} {x : Wd} (h : Bits w x) (hg : w.grownBy w' row) (hn : 0 < x.l.length → ∀ p, x.a = Option.some p → Option.some p.block ≠ row) : Bits w' x := by
  obtain ⟨h1, h2, h0, b, o, h3, h4⟩ := h
  exact ⟨h1, h2, h0, b, o, h3, fun i hi => hg.cell (h4 i hi) (hn (by omega) ⟨b, o, none⟩ (h3 (by omega)))⟩
/-- The bits lie in another block than the value. -/
def Far (x : Wd) (v : Value) : Prop := 0 < x.l.length → ∀ p, x.a = some p → some p.block ≠ v.ownBlock

/-- v is a list of words that was made since w0; their bits lie elsewhere. -/
structure OwnT (w0 w : World) (v : Value) (X : List Wd) : Prop where
  ext : Ext w0 w
  own : w.ownsRow w0.heap.size 22 1 v X.length (X.map Wd.v)
  ok : ∀ x ∈ X, Bits w x ∧ Far x v
theorem OwnT.mono {w0 w w' : World} {v : Value} {X : List Wd} (h : OwnT w0 w v X) (e : Ext w w') : OwnT w0 w' v X := ⟨h.ext.trans e, ownsRow_ext h.own e, fun x hx => ⟨(h.ok x hx).1.ext e, (h.ok x hx).2⟩⟩
theorem OwnT.nil {w0 w : World} (h : Ext w0 w) : OwnT w0 w (.slice none 0 0) [] := ⟨h, World.ownsRow_nil _ _ _ _, fun r hr => by cases hr⟩
theorem OwnT.base {w w1 w2 : World} {v : Value} {X : List Wd} (e : Ext w w1) (h : OwnT w1 w2 v X) : OwnT w w2 v X := by
  obtain ⟨h1, ⟨h2, h3⟩, h4⟩ := h
  refine ⟨e.trans h1, ⟨h2, ?_⟩, h4⟩
  rcases h3 with h3 | ⟨g, cap, cur, hv, hg, r⟩
  · exact .inl h3
  · exact .inr ⟨g, cap, cur, hv, Nat.le_trans e.size hg, r⟩
theorem OwnT.form {w0 w : World} {v : Value} {X : List Wd} (h : OwnT w0 w v X) : ∃ a c, v = .slice a X.length c := by
  rcases h.own.2 with ⟨rfl, h0⟩ | ⟨g, cap, cur, rfl, _⟩
  · exact ⟨none, 0, by rw [h0]⟩
  · exact ⟨_, _, rfl⟩
theorem OwnT.wds {w0 w : World} {v : Value} {X : List Wd} (h : OwnT w0 w v X) : ∃ a c, v = .slice a X.length c ∧ Wds w a c X := by
  have hown := h.own
  rcases h.own.2 with ⟨rfl, h0⟩ | ⟨g, cap, cur, rfl, hg, hh, hle, hm, hs, ht⟩
  · refine ⟨none, 0, by rw [h0], by omega, by unfold maxLen; omega, fun x hx => (h.ok x hx).1, 0, 0, fun hl => by omega, fun i hi => by omega⟩
  · refine ⟨_, _, rfl, hle, hm, fun x hx => (h.ok x hx).1, g, 0, fun _ => rfl, fun i hi => ?_⟩
    rw [Nat.zero_add, hown.cellAt _ (by omega)]
    simp [hi]
/-- A word that was made just now lies in another block. -/
theorem OwnB.far {w0 w1 w2 : World} {v u : Value} {X : List Wd} {l : List Bool} (h : OwnT w0 w1 v X) (k : OwnB w1 w2 u l) : ∃ y : Wd, u = y.v ∧ y.l = l ∧ Bits w2 y ∧ Far y v := by
  obtain ⟨y, rfl, hl, hb⟩ := k.bits
  refine ⟨y, rfl, hl, hb, fun h0 p hp e => ?_⟩
  rw [hl] at h0
  obtain ⟨g, cap, rest, hv, hg, _⟩ := k.row h0
  rw [Wd.v, hp] at hv
  injection hv with hv _ _
  injection hv with hv
  have h1 := h.own.lt p.block e.symm
  rw [hv] at h1
  simp only at h1
  omega

theorem wpList_appendT {ops : Array Oper} {rest : List Oper} {o : Oper} {a : Act} {Q : Exit → Act → World → Prop} (hgd : o.guard = none) (s x : Operand)
    (ho : o.op = .call { callee := .builtin .append, args := #[s, x], argTypes := #[31, 31] }) (w0 W : World) (v : Value) (hs : a.eval s = v) (X : List Wd) (hX : OwnT w0 W v X)
    (y : Wd) (yv : Value) (hyv : yv = y.v) (hx : a.eval x = .slice (some ⟨W.heap.size, 0, none⟩) 1 1) (hy : Bits W y) (hf : Far y v) (hl : X.length ≤ 10000)
    (K : ∀ v' w', OwnT w0 w' v' (X ++ [y]) → wpList Try.prog ops Q rest (a.put o.dst v') w') : wpList Try.prog ops Q (o :: rest) a (W.alloc (.cells #[yv] 22)) := by
  subst hyv
  obtain ⟨i0, hi, hz0, hz1, hz2⟩ := info_parts info22
  refine wpList_append_lies _ hgd s x 31 ho w0.heap.size 22 i0 (.slice none 0 0) 1 24 Try.underlying31 hi hz0 hz1 hz2 rfl (by decide) v X.length (X.map Wd.v) hs (hX.own.alloc _) ⟨W.heap.size, 0, none⟩ 1 1 [y.v] hx rfl ?_ ?_ (by decide) ?_ ?_ ?_ _ rfl ?_
  · exact cell_one_new _ _ _
  · intro u hu; simp at hu; subst hu; rfl
  · unfold maxLen; omega
  · omega
  · have := hX.ext.size; simp; omega
  · intro g cap w' hown hgr hat hlt
    refine K _ w' ⟨?_, ?_, ?_⟩
    · have e1 : Ext w0 (W.alloc (.cells #[y.v] 22)) := hX.ext.alloc _
      exact Below.grown e1 hgr e1.size (fun k hk => (hX.own.lt k hk).1)
    · simpa using hown
    · have ok : ∀ z : Wd, Bits W z → Far z v → Bits w' z ∧ Far z (.slice (some ⟨g, 0, none⟩) (X.length + 1) cap) := fun z hz hzf => by
        have hz2 : Bits (W.alloc (.cells #[y.v] 22)) z := hz.ext ((Ext.refl W).alloc _)
        refine ⟨hz2.grown hgr hzf, fun h0 p hp e => ?_⟩
        have e2 : p.block = g := by simpa [Value.ownBlock] using e
        rcases hat with hat | hat
        · exact hzf h0 p hp (by rw [e2, hat])
        · obtain ⟨_, _, _, b, o, h3, h4⟩ := hz2
          have h5 := h3 h0
          rw [hp] at h5
          injection h5 with h5
          have h6 := World.block_lt_of_cell? _ _ (h4 0 h0)
          rw [h5] at e2
          simp only at e2 h6
          omega
      intro z hz
      rcases List.mem_append.1 hz with hz | hz
      · exact ok z (hX.ok z hz).1 (hX.ok z hz).2
      · simp only [List.mem_singleton] at hz
        subst hz
        exact ok z hy hf
end Go.Proofs.Ytglajpmifhecgaa
