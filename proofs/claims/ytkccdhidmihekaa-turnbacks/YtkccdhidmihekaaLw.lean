/-
  Lists of words that the call itself has made, words and list.
-/
import Derived.Test.YtkccdhidmihekaaCat
import Derived.Test.YtkccdhidmihekaaBlk
namespace Go.Proofs.Ytkccdhidmihekaa
open Go.RowKit

/-- A word in a block of its own, or nothing. -/
def LB (w : World) (x : Wd) : Prop := w.ownsRow 0 5 1 x.v x.l.length (x.l.map (Value.int .u8))

theorem LB.ext {w w' : World} {x : Wd} (h : LB w x) (e : Ext w w') : LB w' x := ownsRow_mono h e
theorem LB.nil (w : World) : LB w ⟨none, 0, []⟩ := World.ownsRow_nil _ _ _ _
theorem LB.bits {w : World} {x : Wd} (h : LB w x) : Bits w x := by
  obtain ⟨a, c, l⟩ := x
  have hown' := h
  obtain ⟨h1, h2⟩ := h
  simp only [Wd.v] at h2
  rcases h2 with ⟨hv, h0⟩ | ⟨g, cap, cur, hv, hg, hh, hle, hm, hs, ht⟩
  · have : l = [] := List.eq_nil_of_length_eq_zero h0
    subst this
    injection hv with e1 e2 e3
    subst e1 e3
    exact ⟨by simp, by simp, by simp, 0, 0, by simp, by simp⟩
  · injection hv with e1 e2 e3
    subst e1 e3
    refine ⟨hle, hm, by simp, g, 0, fun _ => rfl, fun i hi => ?_⟩
    have := World.ownsRow.cellAt (g := g) (cap := c) hown' i (by simpa using hi)
    have hi' : i < l.length := hi
    simpa [List.getD_eq_getElem?_getD, hi'] using this
theorem OwnB.lb {w0 w : World} {v : Value} {l : List Int} (h : OwnB w0 w v l) : ∃ x : Wd, v = x.v ∧ x.l = l ∧ LB w x ∧ ∀ p, x.a = some p → w0.heap.size ≤ p.block := by
  obtain ⟨_, h1, h2⟩ := h
  rcases h2 with ⟨rfl, h0⟩ | ⟨g, cap, cur, rfl, hg, r⟩
  · have : l = [] := List.eq_nil_of_length_eq_zero h0
    subst this
    exact ⟨⟨none, 0, []⟩, rfl, rfl, LB.nil _, by simp⟩
  · refine ⟨⟨some ⟨g, 0, none⟩, cap, l⟩, rfl, rfl, ⟨h1, .inr ⟨g, cap, cur, rfl, Nat.zero_le _, r⟩⟩, ?_⟩
    intro p hp
    injection hp with hp
    subst hp
    exact hg

/-- v is a list of these words, made since w0. -/
structure LW (w0 w : World) (v : Value) (X : List Wd) : Prop where
  ext : Ext w0 w
  own : w.ownsRow w0.heap.size 22 1 v X.length (X.map Wd.v)
  ok : ∀ x ∈ X, LB w x

theorem LW.mono {w0 w w' : World} {v : Value} {X : List Wd} (h : LW w0 w v X) (e : Ext w w') : LW w0 w' v X := ⟨h.ext.trans e, ownsRow_mono h.own e, fun x hx => (h.ok x hx).ext e⟩
theorem LW.w {w0 w : World} {v : Value} {X : List Wd} (h : LW w0 w v X) : OwnW w w0 w v X := ⟨h.ext, h.own, fun x hx => (h.ok x hx).bits⟩
theorem LW.one (w : World) : LW w (w.alloc (.cells #[.slice none 0 0] 22)) (.slice (some ⟨w.heap.size, 0, none⟩) 1 1) [⟨none, 0, []⟩] :=
  ⟨(Ext.refl w).alloc _, (OwnW.one w w).own, fun x hx => by
    simp only [List.mem_singleton] at hx
    subst hx
    exact LB.nil _⟩

/-- A word put behind the others. -/
theorem run_appendLW (ty : TypeId) (w0 W : World) (v : Value) (X : List Wd) (h : LW w0 W v X) (y : Wd) (hy : LB W y) (hl : X.length ≤ 100000) :
    ∃ a' c' w', (Builtin.append_ #[45, 45] ty #[v, .slice (some ⟨W.heap.size, 0, none⟩) 1 1]).run Try.prog (W.alloc (.cells #[y.v] 22)) = .ok (.slice a' (X.length + 1) c') w' ∧
      LW w0 w' (.slice a' (X.length + 1) c') (X ++ [y]) ∧ (W.alloc (.cells #[y.v] 22)).grownBy w' v.ownBlock ∧ ∀ (G m c j : Nat) (hj : j < X.length), v = .slice (some ⟨G, 0, none⟩) m c → w'.cell? ⟨G, j, none⟩ = some X[j].v := by
  obtain ⟨i0, hi, hz0, hz1, hz2⟩ := info_parts info22
  have hA := h.mono ((Ext.refl W).alloc (.cells #[y.v] 22))
  have hyA := hy.ext ((Ext.refl W).alloc (.cells #[y.v] 22))
  obtain ⟨v', w', h1, h2, h3, _⟩ := run_append_own (P := Try.prog) (W.alloc (.cells #[y.v] 22)) w0.heap.size 45 ty 22 i0 (.slice none 0 0) 1 24 Try.underlying45 hi hz0 hz1 hz2 rfl (by decide) v X.length (X.map Wd.v) hA.own ⟨W.heap.size, 0, none⟩ 1 1 [y.v] rfl
    (cell_one_new _ _ _) (by
      intro u hu
      simp only [List.mem_singleton] at hu
      subst hu
      rfl) (by unfold maxLen; omega) (by omega) hA.ext.size
  have hO : LW w0 w' v' (X ++ [y]) := by
    refine ⟨?_, by simpa using h2, fun x hx => ?_⟩
    · exact Below.grown hA.ext h3 hA.ext.size (fun k hk => (hA.own.lt k hk).1)
    · rcases List.mem_append.1 hx with hx | hx
      · exact World.ownsRow.kept (hA.ok x hx) h3 (own_apart (hA.ok x hx) hA.own (by decide))
      · simp only [List.mem_singleton] at hx
        subst hx
        exact World.ownsRow.kept hyA h3 (own_apart hyA hA.own (by decide))
  obtain ⟨a', c', e, _⟩ := hO.w.form
  rw [List.length_append, List.length_singleton] at e
  subst e
  refine ⟨a', c', w', h1, hO, h3, fun G m c j hj hv => ?_⟩
  subst hv
  have hb := append_block Try.underlying45 hi hz0 hz1 hz2 (by omega) hA.own (ad := ⟨W.heap.size, 0, none⟩) (m := 1) (ys := [y.v]) rfl (by decide) (cell_one_new _ _ _) (by
      intro u hu
      simp only [List.mem_singleton] at hu
      subst hu
      rfl) (by omega) h1
  rcases hb with hb | ⟨_, hb⟩
  · obtain ⟨G', e, hc⟩ := hO.w.at j (by rw [List.length_append]; omega)
    subst e
    simp only [Value.ownBlock, Option.some.injEq] at hb
    subst hb
    rw [hc, List.getElem_append_left hj]
  · obtain ⟨G', e, hc⟩ := hA.w.at j hj
    injection e with e
    injection e with e
    subst e
    exact hb.cell hc

theorem cat_map {X : List Wd} {K : List (List Int)} (h : X.map (·.l) = K) : cat X = K.flatten := by
  subst h
  unfold cat
  rw [List.flatMap_def]

end Go.Proofs.Ytkccdhidmihekaa
