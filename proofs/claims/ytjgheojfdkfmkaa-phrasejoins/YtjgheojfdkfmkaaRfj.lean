/-
  quipuref.Joined: the text of phrases, as the document tells it.
-/
import Derived.Test.YtjgheojfdkfmkaaJn
namespace Go.Proofs.Ytjgheojfdkfmkaa
open Go.RowKit

theorem OwnB.ext {w0 w w' : World} {v : Value} {l : List Int} (h : OwnB w0 w v l) (e : Ext w w') : OwnB w0 w' v l := ⟨h.1.trans e, ownsRow_mono h.2 e⟩
theorem OwnB.base {w w1 w2 : World} {v : Value} {l : List Int} (e : Ext w w1) (h : OwnB w1 w2 v l) : OwnB w w2 v l := by
  obtain ⟨h1, h2, h3⟩ := h
  refine ⟨e.trans h1, h2, ?_⟩
  rcases h3 with h3 | ⟨g, cap, cur, hv, hg, r⟩
  · exact .inl h3
  · exact .inr ⟨g, cap, cur, hv, Nat.le_trans e.size hg, r⟩

/-- An append to what has no room: all is left as it was. -/
theorem run_append_new (ty : TypeId) (w0 W : World) (k : Nat) (hk : W.heap[k]? = some (.cells #[] 5)) (h0 : w0.heap.size ≤ k) (hE : Ext w0 W) (y : Wd) (hy : Bits W y) (hl : y.l.length ≤ 1000) (hn : y.a = none ∨ 0 < y.l.length) :
    ∃ v' W', (Builtin.append_ #[22, 22] ty #[.slice (some ⟨k, 0, none⟩) 0 0, y.v]).run Try.prog W = .ok v' W' ∧ OwnB w0 W' v' y.l ∧ Ext W W' := by
  obtain ⟨i0, hi, hz0, hz1, hz2⟩ := info_parts info5
  have hown : OwnB w0 W (.slice (some ⟨k, 0, none⟩) 0 0) [] := ⟨hE, by simp, .inr ⟨k, 0, #[], rfl, h0, hk, by simp, by unfold maxLen; omega, rfl, rfl⟩⟩
  obtain ⟨y1, y2, y0, b, off, y3, y4⟩ := hy
  obtain ⟨ya, yc, yl⟩ := y
  simp only [Wd.v] at *
  by_cases hyl : 0 < yl.length
  · obtain rfl := y3 hyl
    have hnews : ∀ j u, (yl.map (Value.int .u8))[j]? = some u → W.cell? ((⟨b, off, none⟩ : Addr).add j) = some u := by
      intro j u hj
      have hj' : j < yl.length := by
        rcases Nat.lt_or_ge j yl.length with h' | h'
        · exact h'
        · rw [List.getElem?_eq_none (by simpa using h')] at hj; cases hj
      rw [Addr.add_lit, y4 j hj']
      simp [hj'] at hj
      simp [List.getD_eq_getElem?_getD, hj', hj]
    have hone : ∀ u ∈ yl.map (Value.int .u8), u.oneCell' = true := by
      intro u hu
      obtain ⟨q, _, rfl⟩ := List.mem_map.1 hu
      rfl
    obtain ⟨v', w', h1, h2, h3, _⟩ := run_append_own (P := Try.prog) W w0.heap.size 22 ty 5 i0 (.int .u8 0) 1 1 Try.underlying22 hi hz0 hz1 hz2 rfl (by decide) (.slice (some ⟨k, 0, none⟩) 0 0) 0 [] hown.2 ⟨b, off, none⟩ yl.length yc (yl.map (Value.int .u8)) (by simp) hnews hone (by unfold maxLen; omega) (by omega) hE.size
    refine ⟨v', w', h1, ⟨Below.grown hE h3 hE.size (fun k hk => (hown.2.lt k hk).1), by simpa using h2⟩, ?_⟩
    have hg := run_append_grow (P := Try.prog) W 22 ty 5 i0 _ Try.underlying22 hi hz0 ⟨k, 0, none⟩ 0 0 [] (by simp) (by simp) ⟨b, off, none⟩ yl.length yc (yl.map (Value.int .u8)) (by rw [hz1]; simp) hnews (by omega) (by omega) (growslice_fits (by omega) (by rw [hz2]; omega))
    rw [hg] at h1
    injection h1 with e1 e2
    subst e2
    exact (ext_drew W).alloc _
  · have hya : ya = none := by
      rcases hn with h | h
      · exact h
      · exact absurd h hyl
    have hyn : yl = [] := List.eq_nil_of_length_eq_zero (by omega)
    have hyc := y0 hya
    subst hya hyn hyc
    exact ⟨_, W, run_append_owned_none (P := Try.prog) (w := W) w0.heap.size 22 ty 5 i0 1 Try.underlying22 hi _ 0 [] hown.2, hown, Ext.refl _⟩

/-- One byte more. -/
theorem run_append_one (ty : TypeId) (w0 W : World) (v : Value) (l : List Int) (hown : OwnB w0 W v l) (k : Nat) (b : Int) (hb : W.heap[k]? = some (.cells #[.int .u8 b] 5)) (hl : l.length ≤ 1000) :
    ∃ v' W', (Builtin.append_ #[22, 22] ty #[v, .slice (some ⟨k, 0, none⟩) 1 1]).run Try.prog W = .ok v' W' ∧ OwnB w0 W' v' (l ++ [b]) ∧ W.grownBy W' v.ownBlock := by
  obtain ⟨i0, hi, hz0, hz1, hz2⟩ := info_parts info5
  obtain ⟨he, hown⟩ := hown
  obtain ⟨v', w', h1, h2, h3, _⟩ := run_append_own (P := Try.prog) W w0.heap.size 22 ty 5 i0 (.int .u8 0) 1 1 Try.underlying22 hi hz0 hz1 hz2 rfl (by decide) v l.length (l.map (Value.int .u8)) hown ⟨k, 0, none⟩ 1 1 [.int .u8 b] (by simp)
    (by
      intro j u hj
      rw [Addr.add_lit, Nat.zero_add, cell_of_row _ _ _ _ 5 (0, 0) hb]
      simpa using hj)
    (by
      intro u hu
      simp only [List.mem_singleton] at hu
      subst hu
      rfl) (by unfold maxLen; omega) (by omega) he.size
  exact ⟨v', w', h1, ⟨Below.grown he h3 he.size (fun k hk => (hown.lt k hk).1), by rw [List.length_append, List.map_append]; exact h2⟩, h3⟩

theorem LB.block {w : World} {x : Wd} (h : LB w x) : x.v.ownBlock = none ∨ ∃ k, x.v.ownBlock = some k ∧ k < w.heap.size := by
  rcases h.2 with ⟨hv, _⟩ | ⟨g, cap, cur, hv, hg, hh, _⟩
  · rw [hv]
    exact .inl rfl
  · rw [hv]
    exact .inr ⟨g, rfl, lt_of_block hh⟩

/-- What the reference has: the texts so far, apart from what is told. -/
structure JM (g : List (Int × Int)) (w wr : World) (kv ov : Value) (i : Nat) (X : List Wd) : Prop where
  lw : LW w wr kv X
  txt : X.map (·.l) = tx (g.take i)
  full : ∀ x ∈ X, x.a = none ∨ 0 < x.l.length
  out : OwnB w wr ov (joined (g.take i))
  apart : ∀ x ∈ X, x.v.ownBlock = none ∨ x.v.ownBlock ≠ ov.ownBlock

theorem JM.ext {g : List (Int × Int)} {w wr w' : World} {kv ov : Value} {i : Nat} {X : List Wd} (h : JM g w wr kv ov i X) (e : Ext wr w') : JM g w w' kv ov i X :=
  ⟨h.lw.mono e, h.txt, h.full, h.out.ext e, h.apart⟩

theorem JM.start (g : List (Int × Int)) {w w1 : World} (e : Ext w w1) : JM g w (w1.alloc (.cells #[.slice none 0 0] 22)) (.slice (some ⟨w1.heap.size, 0, none⟩) 1 1) (.slice none 0 0) 0 [⟨none, 0, []⟩] := by
  have h := LW.one w1
  refine ⟨⟨e.trans h.ext, ⟨h.own.1, ?_⟩, h.ok⟩, by simp [tx, txs], by simp, ?_, ?_⟩
  · rcases h.own.2 with h2 | ⟨b, cap, cur, hv, hg, r⟩
    · exact .inl h2
    · exact .inr ⟨b, cap, cur, hv, Nat.le_trans e.size hg, r⟩
  · have : joined (g.take 0) = [] := by simp [joined, tx, txs]
    rw [this]
    exact OwnB.nil (e.alloc _)
  · intro x hx
    simp only [List.mem_singleton] at hx
    subst hx
    exact .inl rfl

/-- A list of words that the call made: a word put behind the others. -/
theorem wpList_appendLW {ops : Array Oper} {rest : List Oper} {o : Oper} {a : Act} {Q : Exit → Act → World → Prop} (hgd : o.guard = none) (s x : Operand)
    (ho : o.op = .call { callee := .builtin .append, args := #[s, x], argTypes := #[37, 37] }) (w0 W : World) (v : Value) (hs : a.eval s = v) (X : List Wd) (hX : LW w0 W v X)
    (y : Wd) (yv : Value) (hyv : yv = y.v) (k : Nat) (hx : a.eval x = .slice (some ⟨k, 0, none⟩) 1 1) (hk : k = W.heap.size) (hy : LB W y) (hl : X.length ≤ 10000)
    (K : ∀ a' m' c' w', m' = X.length + 1 → LW w0 w' (.slice a' m' c') (X ++ [y]) → (W.alloc (.cells #[yv] 22)).grownBy w' v.ownBlock → wpList Try.prog ops Q rest (a.put o.dst (.slice a' m' c')) w') : wpList Try.prog ops Q (o :: rest) a (W.alloc (.cells #[yv] 22)) := by
  subst hyv hk
  obtain ⟨a', c', w', hr, h1, h2, _⟩ := run_appendLW o.type w0 W v X hX y hy (by omega)
  refine wpList_plain hgd fun K' hK' => ?_
  unfold Oper.wp
  rw [exec_append _ o s x 37 ho v _ _ _ w' hs hx hr]
  exact hK' _ _ (K a' _ c' w' rfl h1 h2)

/-- Bytes put behind the others: the list's own block, or a new one. -/
theorem wpList_appendOut {ops : Array Oper} {rest : List Oper} {o : Oper} {a : Act} {Q : Exit → Act → World → Prop} (hgd : o.guard = none) (s x : Operand)
    (ho : o.op = .call { callee := .builtin .append, args := #[s, x], argTypes := #[22, 22] }) (w0 W : World) (v : Value) (hs : a.eval s = v) (l : List Int) (hown : OwnB w0 W v l)
    (y : Wd) (hx : a.eval x = y.v) (hy : Bits W y) (hy0 : 0 < y.l.length) (hl : l.length + y.l.length ≤ 100000)
    (K : ∀ v' w', OwnB w0 w' v' (l ++ y.l) → W.grownBy w' v.ownBlock → (v'.ownBlock = v.ownBlock ∨ ∃ k, v'.ownBlock = some k ∧ W.heap.size ≤ k) → wpList Try.prog ops Q rest (a.put o.dst v') w') : wpList Try.prog ops Q (o :: rest) a W := by
  obtain ⟨i0, hi, hz0, hz1, hz2⟩ := info_parts info5
  obtain ⟨he, hown⟩ := hown
  obtain ⟨y1, y2, y0, b, off, y3, y4⟩ := hy
  obtain ⟨ya, yc, yl⟩ := y
  simp only [Wd.v] at *
  obtain rfl := y3 hy0
  have hnews : ∀ j u, (yl.map (Value.int .u8))[j]? = some u → W.cell? ((⟨b, off, none⟩ : Addr).add j) = some u := by
    intro j u hj
    have hj' : j < yl.length := by
      rcases Nat.lt_or_ge j yl.length with h' | h'
      · exact h'
      · rw [List.getElem?_eq_none (by simpa using h')] at hj; cases hj
    rw [Addr.add_lit, y4 j hj']
    simp [hj'] at hj
    simp [List.getD_eq_getElem?_getD, hj', hj]
  have hone : ∀ u ∈ yl.map (Value.int .u8), u.oneCell' = true := by
    intro u hu
    obtain ⟨q, _, rfl⟩ := List.mem_map.1 hu
    rfl
  obtain ⟨v', w', h1, h2, h3, _⟩ := run_append_own (P := Try.prog) W w0.heap.size 22 o.type 5 i0 (.int .u8 0) 1 1 Try.underlying22 hi hz0 hz1 hz2 rfl (by decide) v l.length (l.map (Value.int .u8)) hown ⟨b, off, none⟩ yl.length yc (yl.map (Value.int .u8)) (by simp) hnews hone (by unfold maxLen; omega) (by omega) he.size
  have hb := append_block Try.underlying22 hi hz0 hz1 hz2 (by omega) hown (by simp) hy0 hnews hone (by omega) h1
  refine wpList_plain hgd fun K' hK' => ?_
  unfold Oper.wp
  rw [exec_append _ o s x 22 ho v _ _ _ w' hs hx h1]
  refine hK' _ _ (K v' w' ⟨Below.grown he h3 he.size (fun k hk => (hown.lt k hk).1), by rw [List.length_append, List.map_append]; exact h2⟩ h3 ?_)
  rcases hb with hb | hb
  · exact .inl hb
  · exact .inr hb.1

/-- The round's end: the new text is known, and told. -/
theorem JM.next {g : List (Int × Int)} {w wc w2 w3 : World} {kv kv' ov ov' : Value} {i : Nat} {X : List Wd} {u : Wd} {j : Nat} {y : Int} (h : JM g w wc kv ov i X) (hu : LB wc u) (hi : i < g.length) (hg : g.getD i (0, 0) = ((j : Int), y)) (hj : j < X.length)
    (hul : u.l = X[j].l ++ [y]) (hua : u.v.ownBlock = none ∨ u.v.ownBlock ≠ ov.ownBlock) (h2 : LW w w2 kv' (X ++ [u])) (g2 : (wc.alloc (.cells #[u.v] 22)).grownBy w2 kv.ownBlock)
    (h3 : OwnB w w3 ov' (joined (g.take i) ++ u.l)) (g3 : w2.grownBy w3 ov.ownBlock) (hb : ov'.ownBlock = ov.ownBlock ∨ ∃ k, ov'.ownBlock = some k ∧ w2.heap.size ≤ k) (ho2 : OwnB w w2 ov (joined (g.take i))) : JM g w w3 kv' ov' (i + 1) (X ++ [u]) := by
  have hap : ∀ x ∈ X ++ [u], x.v.ownBlock = none ∨ x.v.ownBlock ≠ ov.ownBlock := by
    intro x hx
    rcases List.mem_append.1 hx with hx | hx
    · exact h.apart x hx
    · simp only [List.mem_singleton] at hx
      subst hx
      exact hua
  have htx : tx (g.take (i + 1)) = tx (g.take i) ++ [u.l] := by
    rw [take_succ_getDP hi, tx_append, hg, hul, ← h.txt]
    simp [List.getD_eq_getElem?_getD, hj]
  refine ⟨⟨?_, ?_, ?_⟩, ?_, ?_, ?_, ?_⟩
  · exact Below.grown h2.ext g3 h2.ext.size (fun k hk => (ho2.2.lt k hk).1)
  · exact World.ownsRow.kept h2.own g3 (own_apart h2.own ho2.2 (by decide))
  · intro x hx
    exact World.ownsRow.kept (h2.ok x hx) g3 (hap x hx)
  · rw [List.map_append, h.txt, htx]
    rfl
  · intro x hx
    rcases List.mem_append.1 hx with hx | hx
    · exact h.full x hx
    · simp only [List.mem_singleton] at hx
      subst hx
      right
      rw [hul]
      simp
  · have : joined (g.take (i + 1)) = joined (g.take i) ++ u.l := by
      unfold joined
      rw [htx]
      simp
    rw [this]
    exact h3
  · intro x hx
    rcases hb with hb | ⟨k, hb, hk⟩
    · rw [hb]
      exact hap x hx
    · rcases (h2.ok x hx).block with h' | ⟨q, h', hq⟩
      · exact .inl h'
      · right
        rw [h', hb]
        intro e
        injection e with e
        omega

end Go.Proofs.Ytjgheojfdkfmkaa
