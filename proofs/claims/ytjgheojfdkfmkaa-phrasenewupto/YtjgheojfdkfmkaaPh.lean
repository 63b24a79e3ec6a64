/-
  Phrases as they lie in memory, one behind the other; lists of phrases that a call makes by append.
-/
import Derived.Test.YtjgheojfdkfmkaaOwn
namespace Go.Proofs.Ytjgheojfdkfmkaa
open Go.RowKit

theorem ext_drew (w : World) : Ext w w.drew := (Ext.refl w).drewN 1

theorem info35 : (Try.prog.info? 35).map (fun i => (i.zero, i.size, i.bytes)) = some (some (.agg #[.int .i64 0, .int .u8 0]), 2, 16) := by kernel_rfl

structure Pm where
  a : Option Addr
  c : Nat
  g : List (Int × Int)

abbrev Pm.v (x : Pm) : Value := .slice x.a x.g.length x.c

def Phs (w : World) (x : Pm) : Prop :=
  x.g.length ≤ x.c ∧ x.c ≤ maxLen ∧ (x.a = none → x.c = 0) ∧
    ∃ b o, (0 < x.g.length → x.a = some ⟨b, o, none⟩) ∧ ∀ i (h : i < x.g.length), w.cell? ⟨b, o + i * 2, none⟩ = some (.int .i64 x.g[i].1) ∧ w.cell? ⟨b, o + i * 2 + 1, none⟩ = some (.int .u8 x.g[i].2)

theorem Phs.ext {w w' : World} {x : Pm} (h : Phs w x) (e : Ext w w') : Phs w' x := by
  obtain ⟨h1, h2, h0, b, o, h3, h4⟩ := h
  exact ⟨h1, h2, h0, b, o, h3, fun i hi => ⟨e.cell (h4 i hi).1, e.cell (h4 i hi).2⟩⟩

def pcell (x : Int × Int) : List Value := [.int .i64 x.1, .int .u8 x.2]

theorem pcells_len (g : List (Int × Int)) : (g.flatMap pcell).length = g.length * 2 := by
  induction g with
  | nil => rfl
  | cons r R ih => rw [List.flatMap_cons, List.length_append, ih]; simp [pcell]; omega

theorem pcells_at : ∀ (R : List (Int × Int)) (k : Nat) (hk : k < R.length), (R.flatMap pcell)[k * 2]? = some (.int .i64 R[k].1) ∧ (R.flatMap pcell)[k * 2 + 1]? = some (.int .u8 R[k].2)
  | [], k, hk => by simp at hk
  | r :: R, 0, _ => by simp [pcell]
  | r :: R, k + 1, hk => by
    have ih := pcells_at R k (by simpa using hk)
    have e : (k + 1) * 2 = k * 2 + 2 := by omega
    rw [List.flatMap_cons, e]
    have l2 : (pcell r).length = 2 := rfl
    refine ⟨?_, ?_⟩
    · rw [List.getElem?_append_right (by omega), l2, show k * 2 + 2 - 2 = k * 2 by omega]; simpa using ih.1
    · rw [List.getElem?_append_right (by omega), l2, show k * 2 + 2 + 1 - 2 = k * 2 + 1 by omega]; simpa using ih.2

theorem ownsRow_mono {w w' : World} {base size : Nat} {e : TypeId} {v : Value} {n : Nat} {xs : List Value} (h : w.ownsRow base e size v n xs) (e1 : Ext w w') : w'.ownsRow base e size v n xs := by
  obtain ⟨h1, h2⟩ := h
  refine ⟨h1, ?_⟩
  rcases h2 with h2 | ⟨g, cap, cur, hv, hg, hh, r⟩
  · exact Or.inl h2
  · refine Or.inr ⟨g, cap, cur, hv, hg, ?_, r⟩
    rw [e1.block g (lt_of_block hh)]
    exact hh

/-- v is a list of phrases g that was made since w0; all that lay in w0 lies as it lay. -/
def OwnP (w0 w : World) (v : Value) (g : List (Int × Int)) : Prop := Ext w0 w ∧ w.ownsRow w0.heap.size 35 2 v g.length (g.flatMap pcell)

theorem OwnP.nil {w0 w : World} (h : Ext w0 w) : OwnP w0 w (.slice none 0 0) [] := ⟨h, World.ownsRow_nil _ _ _ _⟩
theorem OwnP.ext {w0 w w' : World} {v : Value} {g : List (Int × Int)} (h : OwnP w0 w v g) (e : Ext w w') : OwnP w0 w' v g := ⟨h.1.trans e, ownsRow_mono h.2 e⟩
theorem OwnP.form {w0 w : World} {v : Value} {g : List (Int × Int)} (h : OwnP w0 w v g) : ∃ a c, v = .slice a g.length c := by
  obtain ⟨_, _, h2⟩ := h
  rcases h2 with ⟨rfl, h0⟩ | ⟨g, cap, cur, rfl, _⟩
  · exact ⟨none, 0, by rw [h0]⟩
  · exact ⟨_, _, rfl⟩

theorem OwnP.phs {w0 w : World} {v : Value} {g : List (Int × Int)} (h : OwnP w0 w v g) : ∃ x : Pm, v = x.v ∧ x.g = g ∧ Phs w x := by
  obtain ⟨_, hown⟩ := h
  have hown' := hown
  obtain ⟨h1, h2⟩ := hown
  rcases h2 with ⟨rfl, h0⟩ | ⟨b, cap, cur, rfl, hg, hh, hle, hm, hs, ht⟩
  · have : g = [] := List.eq_nil_of_length_eq_zero h0
    subst this
    exact ⟨⟨none, 0, []⟩, rfl, rfl, by simp, by simp, by simp, 0, 0, by simp, by simp⟩
  · refine ⟨⟨some ⟨b, 0, none⟩, cap, g⟩, rfl, rfl, hle, hm, by simp, b, 0, fun _ => rfl, fun i hi => ?_⟩
    have hi' : i < g.length := hi
    have hc := pcells_at g i hi'
    have c0 := hown'.cellAt (i * 2) (by omega)
    have c1 := hown'.cellAt (i * 2 + 1) (by omega)
    rw [hc.1] at c0
    rw [hc.2] at c1
    exact ⟨by simpa using c0, by simpa using c1⟩

/-- A phrase put behind the others. -/
theorem wpList_appendPh {ops : Array Oper} {rest : List Oper} {o : Oper} {a : Act} {Q : Exit → Act → World → Prop} (hgd : o.guard = none) (s x : Operand)
    (ho : o.op = .call { callee := .builtin .append, args := #[s, x], argTypes := #[23, 23] }) (w0 W : World) (v : Value) (hs : a.eval s = v) (g : List (Int × Int)) (h : OwnP w0 W v g)
    (p b : Int) (k : Nat) (hx : a.eval x = .slice (some ⟨k, 0, none⟩) 1 1) (hk : k = W.heap.size) (hl : g.length ≤ 100000)
    (K : ∀ v' w', OwnP w0 w' v' (g ++ [(p, b)]) → (W.alloc (.cells #[.int .i64 p, .int .u8 b] 35)).grownBy w' v.ownBlock → wpList Try.prog ops Q rest (a.put o.dst v') w') :
    wpList Try.prog ops Q (o :: rest) a (W.alloc (.cells #[.int .i64 p, .int .u8 b] 35)) := by
  subst hk
  obtain ⟨i0, hi, hz0, hz1, hz2⟩ := info_parts info35
  have hA := h.ext ((Ext.refl W).alloc (.cells #[.int .i64 p, .int .u8 b] 35))
  refine wpList_append_own _ hgd s x 23 ho w0.heap.size 35 i0 (.agg #[.int .i64 0, .int .u8 0]) 2 16 Try.underlying23 hi hz0 hz1 hz2 rfl (by decide) v g.length (g.flatMap pcell) hs hA.2 ⟨W.heap.size, 0, none⟩ 1 1 (pcell (p, b)) hx rfl ?_ ?_ ?_ (by omega) hA.1.size ?_
  · intro j u hj
    rw [Addr.add_lit, Nat.zero_add, cell_of_row _ _ _ _ 35 (0, 0) (heap_alloc_new _ _)]
    simpa [pcell] using hj
  · intro u hu
    simp only [pcell, List.mem_cons, List.not_mem_nil, or_false] at hu
    rcases hu with hu | hu <;> rw [hu] <;> rfl
  · unfold maxLen; omega
  · intro v' w' hown' hgr _
    refine K v' w' ⟨?_, ?_⟩ hgr
    · exact Below.grown hA.1 hgr hA.1.size (fun k hk => (hA.2.lt k hk).1)
    · rw [List.length_append, List.flatMap_append]
      simpa using hown'

/-- The same, the list spelt out. -/
theorem wpList_appendPh' {ops : Array Oper} {rest : List Oper} {o : Oper} {a : Act} {Q : Exit → Act → World → Prop} (hgd : o.guard = none) (s x : Operand)
    (ho : o.op = .call { callee := .builtin .append, args := #[s, x], argTypes := #[23, 23] }) (w0 W : World) (v : Value) (hs : a.eval s = v) (g : List (Int × Int)) (h : OwnP w0 W v g)
    (p b : Int) (k : Nat) (hx : a.eval x = .slice (some ⟨k, 0, none⟩) 1 1) (hk : k = W.heap.size) (hl : g.length ≤ 100000)
    (K : ∀ a' m' c' w', m' = g.length + 1 → OwnP w0 w' (.slice a' m' c') (g ++ [(p, b)]) → (W.alloc (.cells #[.int .i64 p, .int .u8 b] 35)).grownBy w' v.ownBlock → wpList Try.prog ops Q rest (a.put o.dst (.slice a' m' c')) w') :
    wpList Try.prog ops Q (o :: rest) a (W.alloc (.cells #[.int .i64 p, .int .u8 b] 35)) := by
  refine wpList_appendPh hgd s x ho w0 W v hs g h p b k hx hk hl fun v' w' hv hg => ?_
  obtain ⟨a', c', e⟩ := hv.form
  rw [List.length_append, List.length_singleton] at e
  subst e
  exact K a' _ c' w' rfl hv hg

end Go.Proofs.Ytjgheojfdkfmkaa
