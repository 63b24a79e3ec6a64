/-
  Lists of words that a call itself makes by append; the words' bits lie where they lay.
-/
import Derived.Test.YtlhkifbjbibfoaaRace
namespace Go.Proofs.Ytlhkifbjbibfoaa
open Go.RowKit

theorem info34 : (Try.prog.info? 34).map (fun i => (i.zero, i.size, i.bytes)) = some (some (.slice none 0 0), 1, 24) := by kernel_rfl

/-- v is a list of words that was made since w0; their bits lie where they lay in wc. -/
structure OwnW (wc w0 w : World) (v : Value) (X : List Wd) : Prop where
  ext : Ext w0 w
  own : w.ownsRow w0.heap.size 34 1 v X.length (X.map Wd.v)
  ok : ∀ x ∈ X, Bits wc x

def WS (wc w0 w : World) (v : Value) (P : List (List Bool) → Prop) : Prop := ∃ X, OwnW wc w0 w v X ∧ P (X.map (·.l))

theorem OwnW.mono {wc w0 w w' : World} {v : Value} {X : List Wd} (h : OwnW wc w0 w v X) (e : Ext w w') : OwnW wc w0 w' v X := ⟨h.ext.trans e, ownsRow_mono h.own e, h.ok⟩
theorem OwnW.nil {wc w0 w : World} (h : Ext w0 w) : OwnW wc w0 w (.slice none 0 0) [] := ⟨h, World.ownsRow_nil _ _ _ _, fun r hr => by cases hr⟩
theorem OwnW.form {wc w0 w : World} {v : Value} {X : List Wd} (h : OwnW wc w0 w v X) : ∃ a c, v = .slice a X.length c := by
  rcases h.own.2 with ⟨rfl, h0⟩ | ⟨g, cap, cur, rfl, _⟩
  · exact ⟨none, 0, by rw [h0]⟩
  · exact ⟨_, _, rfl⟩
theorem OwnW.at {wc w0 w : World} {a : Option Addr} {m c : Nat} {X : List Wd} (h : OwnW wc w0 w (.slice a m c) X) (k : Nat) (hk : k < X.length) :
    ∃ G, a = some ⟨G, 0, none⟩ ∧ w.cell? ⟨G, k, none⟩ = some X[k].v := by
  have hown := h.own
  rcases h.own.2 with ⟨hv, h0⟩ | ⟨g, cap, cur, hv, hg, _⟩
  · omega
  · injection hv with h1 h2 h3
    subst h1 h2 h3
    refine ⟨g, rfl, ?_⟩
    rw [hown.cellAt _ (by omega)]
    simp [hk]

theorem WS.mono {wc w0 w w' : World} {v : Value} {P : List (List Bool) → Prop} (h : WS wc w0 w v P) (e : Ext w w') : WS wc w0 w' v P := by
  obtain ⟨X, hX, hP⟩ := h
  exact ⟨X, hX.mono e, hP⟩
theorem WS.imp {wc w0 w : World} {v : Value} {P P' : List (List Bool) → Prop} (h : WS wc w0 w v P) (hp : ∀ T, P T → P' T) : WS wc w0 w v P' := by
  obtain ⟨X, hX, hP⟩ := h
  exact ⟨X, hX, hp _ hP⟩
theorem WS.ext {wc w0 w : World} {v : Value} {P : List (List Bool) → Prop} (h : WS wc w0 w v P) : Ext w0 w := by
  obtain ⟨X, hX, _⟩ := h
  exact hX.ext

theorem OwnW.len {wc w0 w : World} {a : Option Addr} {m c : Nat} {X : List Wd} (h : OwnW wc w0 w (.slice a m c) X) : X.length = m := by
  obtain ⟨_, _, e⟩ := h.form
  injection e with _ e _
  exact e.symm
theorem WS.len {wc w0 w : World} {v : Value} {P : List (List Bool) → Prop} (h : WS wc w0 w v P) : ∃ a m c, v = .slice a m c ∧ ∃ T, P T ∧ T.length = m := by
  obtain ⟨X, hX, hP⟩ := h
  obtain ⟨a, c, e⟩ := hX.form
  exact ⟨a, X.length, c, e, _, hP, by simp⟩

theorem wpList_appendW {ops : Array Oper} {rest : List Oper} {o : Oper} {a : Act} {Q : Exit → Act → World → Prop} (hgd : o.guard = none) (s x : Operand)
    (ho : o.op = .call { callee := .builtin .append, args := #[s, x], argTypes := #[22, 22] }) (wc w0 W : World) (v : Value) (hs : a.eval s = v) (X : List Wd) (hX : OwnW wc w0 W v X)
    (y : Wd) (yv : Value) (hyv : yv = y.v) (k : Nat) (hx : a.eval x = .slice (some ⟨k, 0, none⟩) 1 1) (hk : k = W.heap.size) (hy : Bits wc y) (hl : X.length ≤ 10000)
    (K : ∀ v' w', OwnW wc w0 w' v' (X ++ [y]) → wpList Try.prog ops Q rest (a.put o.dst v') w') : wpList Try.prog ops Q (o :: rest) a (W.alloc (.cells #[yv] 34)) := by
  subst hyv hk
  obtain ⟨i0, hi, hz0, hz1, hz2⟩ := info_parts info34
  refine wpList_append_own _ hgd s x 22 ho w0.heap.size 34 i0 (.slice none 0 0) 1 24 Try.underlying22 hi hz0 hz1 hz2 rfl (by decide) v X.length (X.map Wd.v) hs (hX.own.alloc _) ⟨W.heap.size, 0, none⟩ 1 1 [y.v] hx rfl ?_ ?_ ?_ ?_ ?_ ?_
  · exact cell_one_new _ _ _
  · intro u hu; simp at hu; subst hu; rfl
  · unfold maxLen; omega
  · omega
  · have := hX.ext.size; simp; omega
  · intro v' w' hown' hgr _
    refine K v' w' ⟨?_, ?_, ?_⟩
    · have e1 : Ext w0 (W.alloc (.cells #[y.v] 34)) := hX.ext.alloc _
      exact Below.grown e1 hgr e1.size (fun k hk => (hX.own.lt k hk).1)
    · simpa using hown'
    · intro x hx
      rcases List.mem_append.1 hx with hx | hx
      · exact hX.ok x hx
      · simp only [List.mem_singleton] at hx
        subst hx
        exact hy

theorem wpList_appendWd {ops : Array Oper} {rest : List Oper} {o : Oper} {a : Act} {Q : Exit → Act → World → Prop} (hgd : o.guard = none) (s x : Operand)
    (ho : o.op = .call { callee := .builtin .append, args := #[s, x], argTypes := #[22, 22] }) (wc w0 W : World) (v : Value) (hs : a.eval s = v) {P P' : List (List Bool) → Prop} (h : WS wc w0 W v P)
    (y : Wd) (yv : Value) (hyv : yv = y.v) (k : Nat) (hx : a.eval x = .slice (some ⟨k, 0, none⟩) 1 1) (hk : k = W.heap.size) (hy : Bits wc y) (hb : ∀ T, P T → T.length ≤ 10000) (hP : ∀ T, P T → P' (T ++ [y.l]))
    (K : ∀ v' w', WS wc w0 w' v' P' → wpList Try.prog ops Q rest (a.put o.dst v') w') : wpList Try.prog ops Q (o :: rest) a (W.alloc (.cells #[yv] 34)) := by
  obtain ⟨X, hX, hp⟩ := h
  refine wpList_appendW hgd s x ho wc w0 W v hs X hX y yv hyv k hx hk hy (by simpa using hb _ hp) (fun v' w' hW => K v' w' ⟨_, hW, ?_⟩)
  simpa using hP _ hp

end Go.Proofs.Ytlhkifbjbibfoaa
