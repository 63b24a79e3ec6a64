/-
  Rows of bytes in a list that the call made: stored, swapped, put in order.
-/
import Derived.Test.YtkccdhidmihekaaLw
import Derived.Test.YtkccdhidmihekaaKb
import Derived.Test.YtkccdhidmihekaaBw2
import Derived.Deep.RegionLaw
namespace Go.Proofs.Ytkccdhidmihekaa
open Go.RowKit

theorem LB.setCell {w : World} {B i : Nat} {x : Wd} {u : Value} {l : List Value} (h : LB w x) (hR : Row w B 22 l) : LB (w.setCell ⟨B, i, none⟩ u) x := by
  obtain ⟨h1, h2⟩ := h
  refine ⟨h1, ?_⟩
  rcases h2 with h2 | ⟨g, cap, cur, hv, hg, hh, r⟩
  · exact .inl h2
  · refine .inr ⟨g, cap, cur, hv, hg, ?_, r⟩
    have hne : g ≠ B := by
      intro e
      subst e
      have hR' : w.heap[g]? = some (.cells l.toArray 22 (0, 0)) := hR
      rw [hR'] at hh
      injection hh with hh
      injection hh with _ h3 _
      cases h3
    rw [Below.heap_setCell _ _ _ _ hne]
    exact hh

/-- The block B is a list of these rows, each in a block of its own, all made since w. -/
structure RW (w wr : World) (B : Nat) (X : List Wd) : Prop where
  ext : Ext w wr
  base : w.heap.size ≤ B
  row : Row wr B 22 (X.map Wd.v)
  ok : ∀ x ∈ X, LB wr x

theorem RW.mono {w wr wr' : World} {B : Nat} {X : List Wd} (h : RW w wr B X) (e : Ext wr wr') : RW w wr' B X := ⟨h.ext.trans e, h.base, h.row.ext e, fun x hx => (h.ok x hx).ext e⟩
theorem RW.at {w wr : World} {B : Nat} {X : List Wd} (h : RW w wr B X) {i : Nat} (hi : i < X.length) : wr.cell? ⟨B, i, none⟩ = some X[i].v := by
  rw [h.row.cell i (by simpa using hi)]
  simp
theorem RW.set {w wr : World} {B : Nat} {X : List Wd} (h : RW w wr B X) (i : Nat) {y : Wd} (hy : LB wr y) : RW w (wr.setCell ⟨B, i, none⟩ y.v) B (X.set i y) := by
  refine ⟨h.ext.setCell h.base _, h.base, ?_, fun x hx => ?_⟩
  · rw [List.map_set]
    exact h.row.set i y.v
  · rcases List.mem_or_eq_of_mem_set hx with hx | rfl
    · exact (h.ok x hx).setCell h.row
    · exact hy.setCell h.row

theorem set_midW (A C : List Wd) (u v : Wd) (k : Nat) (hk : k = A.length) : (A ++ u :: C).set k v = A ++ v :: C := by
  subst hk; simp

/-- Two rows change their places. -/
theorem RW.swap {w wr : World} {B : Nat} {p q : List Wd} {x y : Wd} (h : RW w wr B (p ++ y :: x :: q)) {k : Nat} (hk : k = p.length) :
    RW w ((wr.setCell ⟨B, k + 1, none⟩ y.v).setCell ⟨B, k, none⟩ x.v) B (p ++ x :: y :: q) := by
  have hy : LB wr y := h.ok y (by simp)
  have hx : LB wr x := h.ok x (by simp)
  have h1 := h.set (k + 1) hy
  have e1 : (p ++ y :: x :: q).set (k + 1) y = p ++ y :: y :: q := by
    have := set_midW (p ++ [y]) q x y (k + 1) (by simp [hk])
    simpa using this
  rw [e1] at h1
  have h2 := h1.set k (hx.setCell h.row)
  have e2 : (p ++ y :: y :: q).set k x = p ++ x :: y :: q := set_midW p (y :: q) y x k hk
  rw [e2] at h2
  exact h2

/-- While a row seeks its place. -/
structure SeekW (X : List Wd) (i : Nat) (x : Wd) (p q : List Wd) : Prop where
  perm : (p ++ q).Perm (X.take i)
  sort : (p ++ q).Pairwise (fun a b => le a.l b.l = true)
  past : ∀ y ∈ q, ah x.l y.l = true
  at_ : X[i]? = some x

theorem SeekW.step {X : List Wd} {i : Nat} {x y : Wd} {p q : List Wd} (h : SeekW X i x (p ++ [y]) q) (hy : ah x.l y.l = true) : SeekW X i x p (y :: q) :=
  ⟨by simpa using h.perm, by simpa using h.sort, fun z hz => by rcases List.mem_cons.1 hz with rfl | hz; exact hy; exact h.past z hz, h.at_⟩

theorem SeekW.done {X : List Wd} {i : Nat} {x : Wd} {p q : List Wd} (h : SeekW X i x p q) (hp : ∀ u ∈ p, le u.l x.l = true) :
    (p ++ x :: q).Perm (X.take (i + 1)) ∧ (p ++ x :: q).Pairwise (fun a b => le a.l b.l = true) := by
  obtain ⟨hi, hx⟩ := List.getElem?_eq_some_iff.1 h.at_
  constructor
  · rw [List.take_succ_eq_append_getElem hi, hx]
    refine List.perm_middle.trans ?_
    exact (h.perm.cons x).trans (List.perm_append_singleton x _).symm
  · have hs := h.sort
    rw [List.pairwise_append] at hs ⊢
    refine ⟨hs.1, ?_, ?_⟩
    · rw [List.pairwise_cons]
      exact ⟨fun y hy => le_of_ah (h.past y hy), hs.2.1⟩
    · intro u hu v hv
      rcases List.mem_cons.1 hv with rfl | hv
      · exact hp u hu
      · exact hs.2.2 u hu v hv

theorem lastW_le {p q : List Wd} {x y : Wd} (hs : (p ++ [y] ++ q).Pairwise (fun a b => le a.l b.l = true)) (hy : ah x.l y.l = false) : ∀ u ∈ p ++ [y], le u.l x.l = true := by
  have hyx : le y.l x.l = true := by simp [le, hy]
  intro u hu
  rcases List.mem_append.1 hu with hu | hu
  · rw [List.append_assoc, List.pairwise_append] at hs
    exact le_trans _ _ _ (hs.2.2 u hu y (by simp)) hyx
  · have : u = y := by simpa using hu
    rw [this]
    exact hyx

/-- Bytes put behind a list of one's own, whatever they are. -/
theorem run_appendAny (ty : TypeId) (w0 w : World) (v : Value) (l : List Int) (hown : OwnB w0 w v l) (y : Wd) (hy : Bits w y) (hb : l.length + y.l.length ≤ 140737488355328) :
    ∃ v' w', (Builtin.append_ #[22, 22] ty #[v, y.v]).run Try.prog w = .ok v' w' ∧ OwnB w0 w' v' (l ++ y.l) := by
  obtain ⟨i0, hi, hz0, hz1, hz2⟩ := info_parts info5
  obtain ⟨he, hown⟩ := hown
  obtain ⟨y1, y2, y0, b, off, y3, y4⟩ := hy
  obtain ⟨ya, yc, r⟩ := y
  simp only [Wd.v] at y0 y1 y2 y3 y4 hb ⊢
  cases ya with
  | none =>
    have hyc := y0 rfl
    have : r = [] := List.eq_nil_of_length_eq_zero (by omega)
    subst this
    subst hyc
    have := run_append_owned_none (P := Try.prog) w0.heap.size 22 ty 5 i0 1 Try.underlying22 hi (w := w) v l.length (l.map (Value.int .u8)) hown
    exact ⟨v, w, this, by rw [List.append_nil]; exact ⟨he, hown⟩⟩
  | some ad =>
    obtain ⟨v', w', h1, h2, h3, _⟩ := run_append_own (P := Try.prog) w w0.heap.size 22 ty 5 i0 (.int .u8 0) 1 1 Try.underlying22 hi hz0 hz1 hz2 rfl (by decide) v l.length (l.map (Value.int .u8)) hown ad r.length yc (r.map (Value.int .u8)) (by simp)
      (by
        intro j u hj
        have hj' : j < r.length := by
          rcases Nat.lt_or_ge j r.length with h' | h'
          · exact h'
          · rw [List.getElem?_eq_none (by simpa using h')] at hj; cases hj
        have had := y3 (by omega)
        simp only [Option.some.injEq] at had
        subst had
        rw [Addr.add_lit, y4 j hj']
        simp [hj'] at hj
        simp [List.getD_eq_getElem?_getD, hj', hj])
      (by
        intro u hu
        obtain ⟨q, _, rfl⟩ := List.mem_map.1 hu
        rfl) (by unfold maxLen; omega) (by omega) he.size
    refine ⟨v', w', h1, ?_, ?_⟩
    · exact Below.grown he h3 he.size (fun k hk => (hown.lt k hk).1)
    · rw [List.length_append, List.map_append]
      exact h2

theorem step_appendAny {ops : Array Oper} {o : Oper} {a : Act} {w : World} {K : Act → World → Prop} {Q : Exit → Act → World → Prop} {E : Prop} (hgd : o.guard = none) (s x : Operand)
    (ho : o.op = .call { callee := .builtin .append, args := #[s, x], argTypes := #[22, 22] }) (w0 : World) (v : Value) (hs : a.eval s = v) (l : List Int) (hown : OwnB w0 w v l) (y : Wd) (yv : Value) (hyv : yv = y.v) (hx : a.eval x = yv) (hy : Bits w y) (hb : l.length + y.l.length ≤ 100000)
    (h : ∀ z w', Hid (OwnB w0 w' (Wd.v z) (l ++ y.l)) → Hid (z.l = l ++ y.l) → Hid (LB w' z) → K (a.put o.dst (Value.slice z.a z.l.length z.c)) w') :
    if Region.wanted o (yielded ops a.tmps) = true then Oper.wp Try.prog o a w K Q else E := by
  have hw : Region.wanted o (yielded ops a.tmps) = true := by simp [Region.wanted, hgd]
  rw [if_pos hw]
  obtain ⟨v', w', hrun, hO⟩ := run_appendAny o.type w0 w v l hown y hy (by omega)
  obtain ⟨z, rfl, hzl, hzb, -⟩ := hO.lb
  subst hyv
  unfold Oper.wp
  simp [execOp, ho, resolve, invoke, builtin, hs, hx, hrun, Result.andThen]
  exact h z w' hO hzl hzb

end Go.Proofs.Ytkccdhidmihekaa
