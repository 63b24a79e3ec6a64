/-
  Races as they lie in memory: two lists of numbers of the calls' own, and a tail; lists of races that a call makes by append.
-/
import Derived.Test.YtlhkifbjbibfoaaNumb
import Derived.Deep.RegionLaw
namespace Go.Proofs.Ytlhkifbjbibfoaa
open Go.RowKit

theorem info46 : (Try.prog.info? 46).map (fun i => (i.zero, i.size, i.bytes)) = some (some (.agg #[.slice none 0 0, .slice none 0 0, .slice none 0 0]), 3, 72) := by kernel_rfl

theorem ownsRow_mono {w w' : World} {base size : Nat} {e : TypeId} {v : Value} {n : Nat} {xs : List Value} (h : w.ownsRow base e size v n xs) (e1 : Ext w w') : w'.ownsRow base e size v n xs := by
  obtain ⟨h1, h2⟩ := h
  refine ⟨h1, ?_⟩
  rcases h2 with h2 | ⟨g, cap, cur, hv, hg, hh, r⟩
  · exact Or.inl h2
  · refine Or.inr ⟨g, cap, cur, hv, hg, ?_, r⟩
    rw [e1.block g (lt_of_block hh)]
    exact hh

/-- v is a list of numbers that lies in a block of its own. -/
def LN (w : World) (v : Value) (z : List Int) : Prop := w.ownsRow 0 3 1 v z.length (z.map (Value.int .i64))

theorem LN.ext {w w' : World} {v : Value} {z : List Int} (h : LN w v z) (e : Ext w w') : LN w' v z := ownsRow_mono h e
theorem LN.nil (w : World) : LN w (.slice none 0 0) [] := World.ownsRow_nil _ _ _ _
theorem OwnN.ln {w0 w : World} {v : Value} {z : List Int} (h : OwnN w0 w v z) : LN w v z := by
  obtain ⟨_, h1, h2⟩ := h
  refine ⟨h1, ?_⟩
  rcases h2 with h2 | ⟨g, cap, cur, hv, _, r⟩
  · exact Or.inl h2
  · exact Or.inr ⟨g, cap, cur, hv, Nat.zero_le _, r⟩
theorem LN.one (w : World) (q : Int) : LN (w.alloc (.cells #[.int .i64 q] 3)) (.slice (some ⟨w.heap.size, 0, none⟩) 1 1) [q] :=
  ⟨rfl, Or.inr ⟨_, 1, #[.int .i64 q], rfl, Nat.zero_le _, heap_alloc_new _ _, Nat.le_refl _, by simp [maxLen], rfl, rfl⟩⟩
theorem LN.nums {w : World} {v : Value} {z : List Int} (h : LN w v z) : ∃ x : Nm, v = x.v ∧ x.z = z ∧ Nums w x := by
  have hown' := h
  obtain ⟨h1, h2⟩ := h
  rcases h2 with ⟨rfl, h0⟩ | ⟨g, cap, cur, rfl, hg, hh, hle, hm, hs, ht⟩
  · have : z = [] := List.eq_nil_of_length_eq_zero h0
    subst this
    exact ⟨⟨none, 0, []⟩, rfl, rfl, by simp, by simp, by simp, 0, 0, by simp, by simp⟩
  · refine ⟨⟨some ⟨g, 0, none⟩, cap, z⟩, rfl, rfl, hle, hm, by simp, g, 0, fun _ => rfl, fun i hi => ?_⟩
    have := World.ownsRow.cellAt hown' i (by simpa using hi)
    have hi' : i < z.length := hi
    simpa [List.getD_eq_getElem?_getD, hi'] using this

theorem LN.form {w : World} {v : Value} {z : List Int} (h : LN w v z) : ∃ a c, v = .slice a z.length c := by
  rcases h.2 with ⟨rfl, h0⟩ | ⟨g, cap, cur, rfl, _⟩
  · exact ⟨none, 0, by rw [h0]⟩
  · exact ⟨_, _, rfl⟩
theorem LN.cell {w : World} {v : Value} {z : List Int} (h : LN w v z) : v.oneCell' = true := by
  obtain ⟨a, c, rfl⟩ := h.form
  rfl

/-- Blocks of other types are other blocks. -/
theorem own_apart {w : World} {b1 b2 s1 s2 : Nat} {e1 e2 : TypeId} {v1 v2 : Value} {n1 n2 : Nat} {x1 x2 : List Value} (h1 : w.ownsRow b1 e1 s1 v1 n1 x1) (h2 : w.ownsRow b2 e2 s2 v2 n2 x2) (hne : e1 ≠ e2) :
    v1.ownBlock = none ∨ v1.ownBlock ≠ v2.ownBlock := by
  rcases h1.2 with ⟨rfl, _⟩ | ⟨g, cap, cur, rfl, _, hh, _⟩
  · exact Or.inl rfl
  · refine Or.inr ?_
    rcases h2.2 with ⟨rfl, _⟩ | ⟨g', cap', cur', rfl, _, hh', _⟩
    · simp [Value.ownBlock]
    · simp only [Value.ownBlock, ne_eq, Option.some.injEq]
      intro e
      rw [e] at hh
      rw [hh'] at hh
      injection hh with hh
      injection hh with _ h3 _
      exact hne h3.symm

/-- A race: the values of its lists, what they hold, its tail. -/
structure Rc where
  bv : Value
  av : Value
  b : List Int
  a : List Int
  t : Wd

def Rc.cells (r : Rc) : List Value := [r.bv, r.av, r.t.v]

structure RcOk (wc w : World) (r : Rc) : Prop where
  b : LN w r.bv r.b
  a : LN w r.av r.a
  t : Bits wc r.t

theorem RcOk.ext {wc w w' : World} {r : Rc} (h : RcOk wc w r) (e : Ext w w') : RcOk wc w' r := ⟨h.b.ext e, h.a.ext e, h.t⟩

/-- v is a list of races that was made since w0; tails lie where they lay in wc. -/
structure Races (wc w0 w : World) (v : Value) (R : List Rc) : Prop where
  ext : Ext w0 w
  own : w.ownsRow w0.heap.size 46 3 v R.length (R.flatMap Rc.cells)
  ok : ∀ r ∈ R, RcOk wc w r

theorem Races.mono {wc w0 w w' : World} {v : Value} {R : List Rc} (h : Races wc w0 w v R) (e : Ext w w') : Races wc w0 w' v R :=
  ⟨h.ext.trans e, ownsRow_mono h.own e, fun r hr => (h.ok r hr).ext e⟩
theorem Races.nil {wc w0 w : World} (h : Ext w0 w) : Races wc w0 w (.slice none 0 0) [] := ⟨h, World.ownsRow_nil _ _ _ _, fun r hr => by cases hr⟩
theorem Races.form {wc w0 w : World} {v : Value} {R : List Rc} (h : Races wc w0 w v R) : ∃ a c, v = .slice a R.length c := by
  rcases h.own.2 with ⟨rfl, h0⟩ | ⟨g, cap, cur, rfl, _⟩
  · exact ⟨none, 0, by rw [h0]⟩
  · exact ⟨_, _, rfl⟩

theorem cells_len (R : List Rc) : (R.flatMap Rc.cells).length = R.length * 3 := by
  induction R with
  | nil => rfl
  | cons r R ih => rw [List.flatMap_cons, List.length_append, ih]; simp [Rc.cells]; omega

theorem cells_at : ∀ (R : List Rc) (k : Nat) (hk : k < R.length), (R.flatMap Rc.cells)[k * 3]? = some R[k].bv ∧ (R.flatMap Rc.cells)[k * 3 + 1]? = some R[k].av ∧ (R.flatMap Rc.cells)[k * 3 + 2]? = some R[k].t.v
  | [], k, hk => by simp at hk
  | r :: R, 0, _ => by simp [Rc.cells]
  | r :: R, k + 1, hk => by
    have ih := cells_at R k (by simpa using hk)
    have e : (k + 1) * 3 = k * 3 + 3 := by omega
    rw [List.flatMap_cons, e]
    have l3 : r.cells.length = 3 := rfl
    refine ⟨?_, ?_, ?_⟩
    · rw [List.getElem?_append_right (by omega), l3, show k * 3 + 3 - 3 = k * 3 by omega]; simpa using ih.1
    · rw [List.getElem?_append_right (by omega), l3, show k * 3 + 3 + 1 - 3 = k * 3 + 1 by omega]; simpa using ih.2.1
    · rw [List.getElem?_append_right (by omega), l3, show k * 3 + 3 + 2 - 3 = k * 3 + 2 by omega]; simpa using ih.2.2

/-- A race of the list, as it lies. -/
theorem Races.at {wc w0 w : World} {a : Option Addr} {m c : Nat} {R : List Rc} (h : Races wc w0 w (.slice a m c) R) (k : Nat) (hk : k < R.length) :
    ∃ G, a = some ⟨G, 0, none⟩ ∧ w0.heap.size ≤ G ∧ w.cell? ⟨G, k * 3, none⟩ = some R[k].bv ∧ w.cell? ⟨G, k * 3 + 1, none⟩ = some R[k].av ∧ w.cell? ⟨G, k * 3 + 2, none⟩ = some R[k].t.v := by
  have hown := h.own
  rcases h.own.2 with ⟨hv, h0⟩ | ⟨g, cap, cur, hv, hg, _⟩
  · omega
  · injection hv with h1 h2 h3
    subst h1 h2 h3
    have := cells_at R k hk
    refine ⟨g, rfl, hg, ?_, ?_, ?_⟩
    · rw [hown.cellAt _ (by omega), this.1]
    · rw [hown.cellAt _ (by omega), this.2.1]
    · rw [hown.cellAt _ (by omega), this.2.2]

/-- What is appended: nothing, or races that lie one behind the other. -/
def Src (w : World) (sv : Value) (R : List Rc) : Prop :=
  (sv = .slice none 0 0 ∧ R = []) ∨ ∃ ad c, sv = .slice (some ad) R.length c ∧ ∀ j u, (R.flatMap Rc.cells)[j]? = some u → w.cell? (ad.add j) = some u

theorem Races.src {wc w0 w : World} {v : Value} {R : List Rc} (h : Races wc w0 w v R) : Src w v R := by
  have hown := h.own
  rcases h.own.2 with ⟨rfl, h0⟩ | ⟨g, cap, cur, rfl, _⟩
  · exact Or.inl ⟨rfl, List.eq_nil_of_length_eq_zero h0⟩
  · refine Or.inr ⟨⟨g, 0, none⟩, cap, rfl, fun j u hj => ?_⟩
    rw [Addr.add_lit, Nat.zero_add]
    have hj' : j < R.length * 3 := by
      rw [← cells_len]
      rcases Nat.lt_or_ge j (R.flatMap Rc.cells).length with h' | h'
      · exact h'
      · rw [List.getElem?_eq_none h'] at hj; cases hj
    rw [hown.cellAt j hj', hj]

theorem src_new (W : World) (k : Nat) (hk : k = W.heap.size) (r : Rc) : Src (W.alloc (.cells #[r.bv, r.av, r.t.v] 46)) (.slice (some ⟨k, 0, none⟩) 1 1) [r] := by
  subst hk
  refine Or.inr ⟨⟨W.heap.size, 0, none⟩, 1, rfl, fun j u hj => ?_⟩
  rw [Addr.add_lit, Nat.zero_add, cell_of_row _ _ _ _ 46 (0, 0) (heap_alloc_new _ _)]
  simpa [Rc.cells] using hj

theorem bits_none (w : World) : Bits w ⟨none, 0, []⟩ := ⟨by simp, by simp, by simp, 0, 0, by simp, by simp⟩

/-- What is left of a word behind q bits: a word that ends where its room ends, and one that doesn't. -/
theorem Bits.restA {w : World} {a : Option Addr} {q : Nat} {l : List Bool} (h : Bits w ⟨a, q, l⟩) (hq : q ≤ l.length) : Bits w ⟨a, 0, []⟩ ∧ l.drop q = [] ∧ l.length = q := by
  have h1 : l.length ≤ q := h.1
  exact ⟨⟨Nat.le_refl _, Nat.zero_le _, fun _ => rfl, 0, 0, fun h => absurd h (by simp), fun i hi => absurd hi (by simp)⟩, List.drop_eq_nil_of_le h1, by omega⟩
theorem Bits.restB {w : World} {a : Option Addr} {q c : Nat} {l : List Bool} (h : Bits w ⟨a, c, l⟩) (hq : q ≤ l.length) (hne : c ≠ q) : ∃ p, a = some p ∧ Bits w ⟨some (p.add q), c - q, l.drop q⟩ := by
  obtain ⟨h1, h2, h0, b, o, h3, h4⟩ := h
  simp only at h1 h2 h0 h3 h4
  cases a with
  | none => exact absurd (h0 rfl) (by omega)
  | some p =>
    refine ⟨p, rfl, by simp; omega, by simp; omega, by simp, b, o + q, fun hl => ?_, fun i hi => ?_⟩
    · simp only [List.length_drop] at hl
      have hp := h3 (by omega)
      injection hp with hp
      subst hp
      simp only
      rw [Addr.add_lit]
    · simp only [List.length_drop] at hi
      have := h4 (q + i) (by omega)
      rw [Nat.add_assoc, this]
      simp [List.getD_eq_getElem?_getD, List.getElem?_drop]

theorem wpList_appendRaces {ops : Array Oper} {rest : List Oper} {o : Oper} {a : Act} {Q : Exit → Act → World → Prop} (hgd : o.guard = none) (s x : Operand)
    (ho : o.op = .call { callee := .builtin .append, args := #[s, x], argTypes := #[42, 42] }) (wc w0 wr : World) (v : Value) (hs : a.eval s = v) (R : List Rc) (h : Races wc w0 wr v R)
    (sv : Value) (R' : List Rc) (hx : a.eval x = sv) (hsrc : Src wr sv R') (hok : ∀ r ∈ R', RcOk wc wr r) (hb : (R.length + R'.length) * 72 ≤ 140737488355328)
    (k : ∀ v' w', Races wc w0 w' v' (R ++ R') → wr.grownBy w' v.ownBlock → wpList Try.prog ops Q rest (a.put o.dst v') w') : wpList Try.prog ops Q (o :: rest) a wr := by
  obtain ⟨i0, hi, hz0, hz1, hz2⟩ := info_parts info46
  rcases hsrc with ⟨rfl, rfl⟩ | ⟨ad, c, rfl, hcell⟩
  · refine wpList_append_own_none hgd s x 42 ho w0.heap.size 46 i0 3 Try.underlying42 hi v R.length (R.flatMap Rc.cells) hs h.own hx (k v wr ?_ (World.grownBy.refl _ _))
    rw [List.append_nil]
    exact h
  · refine wpList_append_own wr hgd s x 42 ho w0.heap.size 46 i0 (.agg #[.slice none 0 0, .slice none 0 0, .slice none 0 0]) 3 72 Try.underlying42 hi hz0 hz1 hz2 rfl (by decide) v R.length (R.flatMap Rc.cells) hs h.own ad R'.length c (R'.flatMap Rc.cells) hx (cells_len R') hcell ?_ ?_ hb h.ext.size ?_
    · intro u hu
      obtain ⟨r, hr, hu⟩ := List.mem_flatMap.1 hu
      simp only [Rc.cells, List.mem_cons, List.not_mem_nil, or_false] at hu
      rcases hu with hu | hu | hu
      · rw [hu]; exact (hok r hr).b.cell
      · rw [hu]; exact (hok r hr).a.cell
      · rw [hu]; rfl
    · unfold maxLen; omega
    · intro v' w' hown' hgr _
      refine k v' w' ⟨?_, ?_, ?_⟩ hgr
      · exact Below.grown h.ext hgr h.ext.size (fun k hk => (h.own.lt k hk).1)
      · rw [List.length_append, List.flatMap_append]
        exact hown'
      · have kept : ∀ {v1 : Value} {z : List Int}, LN wr v1 z → LN w' v1 z := fun hl => World.ownsRow.kept hl hgr (own_apart hl h.own (by decide))
        intro r hr
        rcases List.mem_append.1 hr with hr | hr
        · exact ⟨kept (h.ok r hr).b, kept (h.ok r hr).a, (h.ok r hr).t⟩
        · exact ⟨kept (hok r hr).b, kept (hok r hr).a, (hok r hr).t⟩

/-- v is a list of races of which P holds. -/
def RS (wc w0 w : World) (v : Value) (P : List Rc → Prop) : Prop := ∃ R, Races wc w0 w v R ∧ P R

theorem RS.mono {wc w0 w w' : World} {v : Value} {P : List Rc → Prop} (h : RS wc w0 w v P) (e : Ext w w') : RS wc w0 w' v P := by
  obtain ⟨R, hR, hP⟩ := h
  exact ⟨R, hR.mono e, hP⟩
theorem RS.imp {wc w0 w : World} {v : Value} {P P' : List Rc → Prop} (h : RS wc w0 w v P) (hp : ∀ R, P R → P' R) : RS wc w0 w v P' := by
  obtain ⟨R, hR, hP⟩ := h
  exact ⟨R, hR, hp R hP⟩
theorem RS.ext {wc w0 w : World} {v : Value} {P : List Rc → Prop} (h : RS wc w0 w v P) : Ext w0 w := by
  obtain ⟨R, hR, _⟩ := h
  exact hR.ext

theorem RS.base {wc w0 w1 w : World} {v : Value} {P : List Rc → Prop} (h : RS wc w1 w v P) (e : Ext w0 w1) : RS wc w0 w v P := by
  obtain ⟨R, hR, hP⟩ := h
  refine ⟨R, ⟨e.trans hR.ext, ?_, hR.ok⟩, hP⟩
  obtain ⟨h1, h2⟩ := hR.own
  refine ⟨h1, ?_⟩
  rcases h2 with h2 | ⟨g, cap, cur, hv, hg, r⟩
  · exact Or.inl h2
  · exact Or.inr ⟨g, cap, cur, hv, Nat.le_trans e.size hg, r⟩

theorem wpList_appendOne {ops : Array Oper} {rest : List Oper} {o : Oper} {a : Act} {Q : Exit → Act → World → Prop} (hgd : o.guard = none) (s x : Operand)
    (ho : o.op = .call { callee := .builtin .append, args := #[s, x], argTypes := #[42, 42] }) (wc w0 W : World) (v : Value) (hs : a.eval s = v) {P P' : List Rc → Prop} (h : RS wc w0 W v P)
    (r : Rc) (tv : Value) (htv : tv = r.t.v) (k : Nat) (hx : a.eval x = .slice (some ⟨k, 0, none⟩) 1 1) (hk : k = W.heap.size) (hok : RcOk wc W r) (hb : ∀ R, P R → R.length ≤ 10000) (hP : ∀ R, P R → P' (R ++ [r]))
    (K : ∀ v' w', RS wc w0 w' v' P' → wpList Try.prog ops Q rest (a.put o.dst v') w') : wpList Try.prog ops Q (o :: rest) a (W.alloc (.cells #[r.bv, r.av, tv] 46)) := by
  subst htv
  obtain ⟨R, hR, hp⟩ := h
  refine wpList_appendRaces hgd s x ho wc w0 _ v hs R (hR.mono ((Ext.refl W).alloc _)) _ [r] hx (src_new W k hk r) ?_ ?_ ?_
  · intro r' hr'
    simp only [List.mem_singleton] at hr'
    subst hr'
    exact hok.ext ((Ext.refl W).alloc _)
  · have := hb R hp
    simp only [List.length_singleton]
    omega
  · intro v' w' B _
    exact K v' w' ⟨_, B, hP R hp⟩

theorem ext_drew (w : World) : Ext w w.drew := (Ext.refl w).drewN 1

/-- The same, in a region that draws its order. -/
theorem step_appendOne {ops : Array Oper} {o : Oper} {a : Act} {K : Act → World → Prop} {Q : Exit → Act → World → Prop} {E : Prop} (hgd : o.guard = none) (s x : Operand)
    (ho : o.op = .call { callee := .builtin .append, args := #[s, x], argTypes := #[42, 42] }) (wc w0 W : World) (v : Value) (hs : a.eval s = v) {P P' : List Rc → Prop} (h : RS wc w0 W v P)
    (r : Rc) (tv : Value) (htv : tv = r.t.v) (k : Nat) (hx : a.eval x = .slice (some ⟨k, 0, none⟩) 1 1) (hk : k = W.heap.size) (hok : RcOk wc W r) (hb : ∀ R, P R → R.length ≤ 10000) (hP : ∀ R, P R → P' (R ++ [r]))
    (hK : ∀ v' w', RS wc w0 w' v' P' → K (a.put o.dst v') w') :
    if Region.wanted o (yielded ops a.tmps) = true then Oper.wp Try.prog o a (W.alloc (.cells #[r.bv, r.av, tv] 46)).drew K Q else E := by
  subst htv
  have hw : Region.wanted o (yielded ops a.tmps) = true := by simp [Region.wanted, hgd]
  rw [if_pos hw]
  obtain ⟨R, hR, hp⟩ := h
  have e1 : Ext W (W.alloc (.cells #[r.bv, r.av, r.t.v] 46)).drew := ((Ext.refl W).alloc _).trans (ext_drew _)
  have hR' := hR.mono e1
  have hok' := hok.ext e1
  have hl := hb R hp
  obtain ⟨i0, hi, hz0, hz1, hz2⟩ := info_parts info46
  subst hk
  refine wp_append_own _ s x 42 ho w0.heap.size 46 i0 (.agg #[.slice none 0 0, .slice none 0 0, .slice none 0 0]) 3 72 Try.underlying42 hi hz0 hz1 hz2 rfl (by decide) v R.length (R.flatMap Rc.cells) hs hR'.own ⟨W.heap.size, 0, none⟩ 1 1 r.cells hx rfl ?_ ?_ ?_ (by omega) hR'.ext.size ?_
  · intro j u hj
    have hc : W.heap.size < (W.alloc (.cells #[r.bv, r.av, r.t.v] 46)).heap.size := by simp
    have hcell : (W.alloc (.cells #[r.bv, r.av, r.t.v] 46)).cell? ⟨W.heap.size, j, none⟩ = some u := by
      rw [cell_of_row _ _ _ _ 46 (0, 0) (heap_alloc_new _ _)]
      simpa [Rc.cells] using hj
    rw [Addr.add_lit, Nat.zero_add]
    exact (ext_drew _).cell hcell
  · intro u hu
    simp only [Rc.cells, List.mem_cons, List.not_mem_nil, or_false] at hu
    rcases hu with hu | hu | hu
    · rw [hu]; exact hok.b.cell
    · rw [hu]; exact hok.a.cell
    · rw [hu]; rfl
  · unfold maxLen; omega
  · intro v' w' hown' hgr _
    refine hK v' w' ⟨R ++ [r], ⟨?_, ?_, ?_⟩, hP R hp⟩
    · exact Below.grown hR'.ext hgr hR'.ext.size (fun k hk => (hR'.own.lt k hk).1)
    · rw [List.length_append, List.flatMap_append]
      simpa using hown'
    · have kept : ∀ {v1 : Value} {z : List Int}, LN (W.alloc (.cells #[r.bv, r.av, r.t.v] 46)).drew v1 z → LN w' v1 z := fun hl => World.ownsRow.kept hl hgr (own_apart hl hR'.own (by decide))
      intro r' hr
      rcases List.mem_append.1 hr with hr | hr
      · exact ⟨kept (hR'.ok r' hr).b, kept (hR'.ok r' hr).a, (hR'.ok r' hr).t⟩
      · simp only [List.mem_singleton] at hr
        subst hr
        exact ⟨kept hok'.b, kept hok'.a, hok'.t⟩

end Go.Proofs.Ytlhkifbjbibfoaa
