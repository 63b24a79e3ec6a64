/-
  Bits appended to a list of one's own: every other block stays as it was. A whole array of two bits into and out of a block.
-/
import Derived.Test.YtnkhlohoaoiefaaDoorWr
import Derived.Test.YtnkhlohoaoiefaaDoorCat
namespace Go.Proofs.YtnkhlohoaoiefaaDoor
open Go.RowKit
set_option linter.unusedVariables false

theorem append_block {t e : TypeId} {i0 : TypeInfo} {z : Value} {by8 : Nat} (ht : Tryd.prog.underlying t = some (.slice e)) (hi : Tryd.prog.info? e = some i0) (hz0 : i0.zero = some z) (hz1 : i0.size = 1) (hz2 : i0.bytes = by8) (hb : by8 ≤ 24)
    {w w' : World} {base : Nat} {v v' : Value} {n : Nat} {xs : List Value} {ty : TypeId} {ad : Addr} {m c : Nat} {ys : List Value} (hown : w.ownsRow base e 1 v n xs) (hl : ys.length = m) (hm : 0 < m)
    (hnews : ∀ j u, ys[j]? = some u → w.cell? (ad.add j) = some u) (hone : ∀ u ∈ ys, u.oneCell' = true) (h63 : n + m ≤ 1000000000) (hr : (Builtin.append_ #[t, t] ty #[v, .slice (some ad) m c]).run Tryd.prog w = .ok v' w') :
    v'.ownBlock = v.ownBlock ∨ ((∃ k, v'.ownBlock = some k ∧ w.heap.size ≤ k) ∧ Ext w w') := by
  have hbb : (n + m) * by8 ≤ 24000000000 := by
    have := Nat.mul_le_mul h63 hb
    omega
  have hbm : m * by8 ≤ 24000000000 := by
    have := Nat.mul_le_mul (show m ≤ 1000000000 by omega) hb
    omega
  rcases hown.2 with ⟨rfl, rfl⟩ | ⟨g, cap, cur, rfl, hbg, hg, hnc, hcm, hcs, htake⟩
  · have hr2 := run_append_nil (P := Tryd.prog) w t ty e i0 _ ht hi hz0 ad m c ys (by rw [hz1]; omega) hnews hm (by omega) (by rw [hz2]; omega)
    rw [hr2] at hr
    injection hr with e1 e2
    subst e1 e2
    exact .inr ⟨⟨_, rfl, Nat.le_refl _⟩, (ext_drew w).alloc _⟩
  · by_cases hroom : n + m ≤ cap
    · have hr2 := run_append_room (P := Tryd.prog) w t ty e i0 ht hi g n cap cur hg ad m c ys (by rw [hz1]; omega) hnews hone hroom (by rw [hz1, hl]; omega)
      rw [hr2] at hr
      injection hr with e1 e2
      subst e1
      exact .inl rfl
    · have holds : ∀ j u, xs[j]? = some u → w.cell? ((⟨g, 0, none⟩ : Addr).add j) = some u := hown.cells (g := g) rfl
      have hr2 := run_append_grow (P := Tryd.prog) w t ty e i0 _ ht hi hz0 ⟨g, 0, none⟩ n cap xs (by rw [hz1]; exact hown.1) holds ad m c ys (by rw [hz1]; omega) hnews (by omega) (by omega) (growslice_fits (by omega) (by rw [hz2]; omega))
      rw [hr2] at hr
      injection hr with e1 e2
      subst e1 e2
      exact .inr ⟨⟨_, rfl, Nat.le_refl _⟩, (ext_drew w).alloc _⟩

/-- Bits appended: every other block stays as it was, and the list lies in none of these. -/
theorem wpList_appendBitsB {ops : Array Oper} {rest : List Oper} {o : Oper} {a : Act} {Q : Exit → Act → World → Prop} (hgd : o.guard = none) (s x : Operand)
    (ho : o.op = .call { callee := .builtin .append, args := #[s, x], argTypes := #[22, 22] }) (w0 wr : World) (v : Value) (hs : a.eval s = v) (l : List Bool) (hown : OwnB w0 wr v l)
    (C c : Nat) (y : List Bool) (hy0 : 0 < y.length) (hx : a.eval x = .slice (some ⟨C, 0, none⟩) y.length c) (hy : ∀ i, i < y.length → wr.cell? ⟨C, i, none⟩ = some (.bool (y.getD i false))) (hb : l.length + y.length ≤ 1000000000)
    (h : ∀ v' w', OwnB w0 w' v' (l ++ y) → (∀ B t l, Row wr B t l → some B ≠ v.ownBlock → Row w' B t l ∧ some B ≠ v'.ownBlock) → wr.heap.size ≤ w'.heap.size → wpList Tryd.prog ops Q rest (a.put o.dst v') w') : wpList Tryd.prog ops Q (o :: rest) a wr := by
  obtain ⟨i0, hi, hz0, hz1, hz2⟩ := info_parts info4
  obtain ⟨he, hown⟩ := hown
  have hone : ∀ u ∈ y.map Value.bool, u.oneCell' = true := by
    intro u hu
    obtain ⟨q, _, rfl⟩ := List.mem_map.1 hu
    rfl
  have hnews : ∀ j u, (y.map Value.bool)[j]? = some u → wr.cell? ((⟨C, 0, none⟩ : Addr).add j) = some u := by
    intro j u hj
    have hj' : j < y.length := by
      rcases Nat.lt_or_ge j y.length with h' | h'
      · exact h'
      · rw [List.getElem?_eq_none (by simpa using h')] at hj; cases hj
    rw [Addr.add_lit, Nat.zero_add, hy j hj']
    simp [hj'] at hj
    simp [List.getD_eq_getElem?_getD, hj', hj]
  obtain ⟨v', w', hr, h2, h3, _⟩ := run_append_own (P := Tryd.prog) wr w0.heap.size 22 o.type 4 i0 (.bool false) 1 1 Tryd.underlying22 hi hz0 hz1 hz2 rfl (by decide) v l.length (l.map Value.bool) hown ⟨C, 0, none⟩ y.length c (y.map Value.bool) (by simp)
    hnews hone (by unfold maxLen; omega) (by omega) he.size
  have hbk := append_block Tryd.underlying22 hi hz0 hz1 hz2 (by omega) hown (ad := ⟨C, 0, none⟩) (m := y.length) (c := c) (ys := y.map Value.bool) (by simp) hy0 hnews hone (by omega) hr
  refine wpList_plain hgd fun _ hK => ?_
  unfold Oper.wp execOp
  simp only [ho, resolve, invoke, builtin, Sem.run_bind, Sem.run_pure, Result.andThen_ok, List.map_toArray, List.map_cons, List.map_nil, hs, hx, hr]
  refine hK _ _ (h v' w' ⟨Below.grown he h3 he.size (fun k hk => (hown.lt k hk).1), by simpa using h2⟩ (fun B t l hB hne => ?_) h3.size)
  refine ⟨?_, ?_⟩
  · show w'.heap[B]? = _
    rw [h3.block B hB.lt hne]
    exact hB
  · rcases hbk with hb | ⟨⟨k, hk, hk2⟩, _⟩
    · rw [hb]; exact hne
    · rw [hk]
      intro e
      injection e with e
      have := hB.lt
      omega

/-- A whole state out of a block. -/
theorem wpList_loadS {ops : Array Oper} {rest : List Oper} {o : Oper} {a : Act} {w : World} {Q : Exit → Act → World → Prop} (hgd : o.guard = none) (x : Operand) (ho : o.op = .load 37 x)
    (B : Nat) (hx : a.eval x = .pointer (some ⟨B, 0, none⟩)) (p q : Bool) (hr : Row w B 37 [.bool p, .bool q])
    (h : wpList Tryd.prog ops Q rest (a.put o.dst (pv p q)) w) : wpList Tryd.prog ops Q (o :: rest) a w :=
  wpList_load_row hgd 37 x ho B hx 37 #[.bool p, .bool q] (0, 0) _ hr underState rfl sizeState h
/-- A whole state into a block. -/
theorem wpList_storeS {ops : Array Oper} {rest : List Oper} {o : Oper} {a : Act} {w : World} {Q : Exit → Act → World → Prop} (hgd : o.guard = none) (x y : Operand) (ho : o.op = .store 37 x y)
    (B : Nat) (p q p' q' : Bool) (hx : a.eval x = .pointer (some ⟨B, 0, none⟩)) (hy : a.eval y = pv p' q') (hr : Row w B 37 [.bool p, .bool q])
    (h : wpList Tryd.prog ops Q rest (a.put o.dst undef) (w.setRow B #[.bool p', .bool q'])) : wpList Tryd.prog ops Q (o :: rest) a w :=
  wpList_store_row hgd 37 x y ho B #[.bool p', .bool q'] hx hy 37 #[.bool p, .bool q] hr sizeState rfl (by simp [Value.oneCell']) h

theorem Row.setRow {w : World} {B : Nat} {t : TypeId} {l : List Value} (h : Row w B t l) (m : List Value) : Row (w.setRow B m.toArray) B t m := setRow_heap _ _ _ _ _ _ h
theorem Row.setOther {w : World} {B C : Nat} {t : TypeId} {l : List Value} (h : Row w C t l) (hne : C ≠ B) (m : Array Value) : Row (w.setRow B m) C t l := by
  show (w.setRow B m).heap[C]? = _
  rw [setRow_other w B C m hne]
  exact h
theorem Ext.setRow {a w : World} (h : Ext a w) {B : Nat} (hB : a.heap.size ≤ B) (m : Array Value) : Ext a (w.setRow B m) :=
  Below.trans h ⟨rfl, rfl, rfl, by simp [World.setRow], fun j hj => setRow_other _ _ j _ (by omega)⟩
theorem OwnB.setRow {w0 w : World} {v : Value} {l : List Bool} (h : OwnB w0 w v l) {B : Nat} (hB : w0.heap.size ≤ B) (hne : some B ≠ v.ownBlock) (m : Array Value) : OwnB w0 (w.setRow B m) v l := by
  obtain ⟨he, h1, h2⟩ := h
  refine ⟨he.setRow hB m, h1, ?_⟩
  rcases h2 with h2 | ⟨g, cap, cur, hv, hg, hh, r⟩
  · exact .inl h2
  · refine .inr ⟨g, cap, cur, hv, hg, ?_, r⟩
    rw [setRow_other w B g m (by
      intro e
      subst e hv
      exact hne rfl)]
    exact hh

end Go.Proofs.YtnkhlohoaoiefaaDoor
