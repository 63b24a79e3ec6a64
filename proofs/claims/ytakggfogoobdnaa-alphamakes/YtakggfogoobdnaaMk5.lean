/-
  quipuref.Ordered: the document's words of these lengths.
-/
import Derived.Test.YtakggfogoobdnaaMk4
namespace Go.Proofs.Ytakggfogoobdnaa
open Go.RowKit

/-- A word in a block of its own. -/
abbrev pv (p : Nat × List Bool) : Value := .slice (some ⟨p.1, 0, none⟩) p.2.length p.2.length

/-- v is a list of these words, made from base on. -/
structure LW (base : Nat) (w : World) (v : Value) (G : List (Nat × List Bool)) : Prop where
  own : w.ownsRow base 44 1 v G.length (G.map pv)
  ok : ∀ p ∈ G, Row w p.1 4 (bv p.2)

theorem LW.nil (base : Nat) (w : World) : LW base w (.slice none 0 0) [] := ⟨World.ownsRow_nil _ _ _ _, fun x hx => by cases hx⟩
theorem LW.ext {base : Nat} {w w' : World} {v : Value} {G : List (Nat × List Bool)} (h : LW base w v G) (e : Ext w w') : LW base w' v G := ⟨ownsRow_ext h.own e, fun p hp => (h.ok p hp).ext e⟩
theorem LW.form {base : Nat} {w : World} {v : Value} {G : List (Nat × List Bool)} (h : LW base w v G) : ∃ a c, v = .slice a G.length c ∧ G.length ≤ c ∧ c ≤ maxLen := by
  rcases h.own.2 with ⟨rfl, h0⟩ | ⟨g, cap, cur, rfl, _, _, hc, hm, _⟩
  · exact ⟨none, 0, by rw [h0], by omega, by unfold maxLen; omega⟩
  · exact ⟨_, _, rfl, hc, hm⟩
theorem LW.at {base : Nat} {w : World} {a : Option Addr} {m c : Nat} {G : List (Nat × List Bool)} (h : LW base w (.slice a m c) G) (k : Nat) (hk : k < G.length) :
    ∃ g, a = some ⟨g, 0, none⟩ ∧ w.cell? ⟨g, k, none⟩ = some (pv G[k]) := by
  have hown := h.own
  rcases h.own.2 with ⟨hv, h0⟩ | ⟨g, cap, cur, hv, hg, _⟩
  · omega
  · injection hv with h1 h2 h3
    subst h1 h2 h3
    refine ⟨g, rfl, ?_⟩
    rw [hown.cellAt _ (by omega)]
    simp [hk]

/-- As a code. -/
theorem LW.wds {base : Nat} {w : World} {a : Option Addr} {m c : Nat} {G : List (Nat × List Bool)} (h : LW base w (.slice a m c) G) (h8 : ∀ p ∈ G, p.2.length ≤ 8) :
    ∃ g : List Wd, g.length = m ∧ g.map (·.l) = G.map (·.2) ∧ Wds w a c g := by
  obtain ⟨a', c', hv, hc1, hc2⟩ := h.form
  injection hv with e1 e2 e3
  subst e1 e2 e3
  refine ⟨G.map fun p => ⟨some ⟨p.1, 0, none⟩, p.2.length, p.2⟩, by simp, by simp [Function.comp_def], by simpa using hc1, hc2, ?_, ?_⟩
  · intro x hx
    obtain ⟨p, hp, rfl⟩ := List.mem_map.1 hx
    exact (h.ok p hp).bits (by have := h8 p hp; unfold maxLen; omega)
  · rcases Nat.eq_zero_or_pos G.length with h0 | h0
    · exact ⟨0, 0, fun hp => by simp at hp; omega, fun i hi => by simp at hi; omega⟩
    · obtain ⟨g, hg, _⟩ := h.at 0 h0
      refine ⟨g, 0, fun _ => hg, fun i hi => ?_⟩
      have hi' : i < G.length := by simpa using hi
      obtain ⟨g', hg', hc⟩ := h.at i hi'
      rw [hg] at hg'
      simp only [Option.some.injEq, Addr.mk.injEq, and_true] at hg'
      subst hg'
      rw [Nat.zero_add, hc]
      simp

theorem wpList_appendLW {ops : Array Oper} {rest : List Oper} {o : Oper} {a : Act} {Q : Exit → Act → World → Prop} (hgd : o.guard = none) (s x : Operand)
    (ho : o.op = .call { callee := .builtin .append, args := #[s, x], argTypes := #[34, 34] }) (w0 W : World) (v : Value) (hs : a.eval s = v) (G : List (Nat × List Bool)) (hE : Ext w0 W) (hG : LW w0.heap.size W v G)
    (p : Nat × List Bool) (yv : Value) (hyv : yv = pv p) (k : Nat) (hx : a.eval x = .slice (some ⟨k, 0, none⟩) 1 1) (hk : k = W.heap.size) (hy : Row W p.1 4 (bv p.2)) (hl : G.length ≤ 1000)
    (K : ∀ v' w', Ext w0 w' → LW w0.heap.size w' v' (G ++ [p]) → wpList Try.prog ops Q rest (a.put o.dst v') w') : wpList Try.prog ops Q (o :: rest) a (W.alloc (.cells #[yv] 44)) := by
  subst hyv hk
  obtain ⟨i0, hi, hz0, hz1, hz2⟩ := info_parts info44
  refine wpList_append_own _ hgd s x 34 ho w0.heap.size 44 i0 (.slice none 0 0) 1 24 Try.underlying34 hi hz0 hz1 hz2 rfl (by decide) v G.length (G.map pv) hs (hG.own.alloc _) ⟨W.heap.size, 0, none⟩ 1 1 [pv p] hx rfl ?_ ?_ ?_ ?_ ?_ ?_
  · exact cell_one_new _ _ _
  · intro u hu; simp at hu; subst hu; rfl
  · unfold maxLen; omega
  · omega
  · have := hE.size; simp; omega
  · intro v' w' hown' hgr _
    have e1 : Ext w0 (W.alloc (.cells #[pv p] 44)) := hE.alloc _
    refine K v' w' (Below.grown e1 hgr e1.size (fun k hk => (hG.own.lt k hk).1)) ⟨by simpa using hown', ?_⟩
    intro q hq
    have hq' : Row W q.1 4 (bv q.2) := by
      rcases List.mem_append.1 hq with hq | hq
      · exact hG.ok q hq
      · simp only [List.mem_singleton] at hq
        subst hq
        exact hy
    have hq2 : Row (W.alloc (.cells #[pv p] 44)) q.1 4 (bv q.2) := hq'.ext ((Ext.refl W).alloc _)
    show w'.heap[q.1]? = _
    rw [hgr.block q.1 hq2.lt ?_]
    · exact hq2
    · rcases hG.own.2 with ⟨rfl, _⟩ | ⟨g, cap, cur, rfl, _, hh, _⟩
      · simp [Value.ownBlock]
      · simp only [Value.ownBlock, ne_eq, Option.some.injEq]
        rintro rfl
        unfold Row at hq'
        rw [hh] at hq'
        simp at hq'

/-- Do all of the first i come ahead of this word? -/
def okT (W : List (Nat × Nat)) (y b i : Nat) : Bool := (W.take i).all fun p => rsB (dg p.1 p.2) (dg y b)
theorem okT_zero (W : List (Nat × Nat)) (y b : Nat) : okT W y b 0 = true := by simp [okT]
theorem okT_succ (W : List (Nat × Nat)) (y b i : Nat) (hi : i < W.length) : okT W y b (i + 1) = (okT W y b i && rsB (dg W[i].1 W[i].2) (dg y b)) := by
  unfold okT
  rw [List.take_succ_eq_append_getElem hi, List.all_append]
  simp
theorem okT_all {W : List (Nat × Nat)} {x a y b : Nat} (h : Plc W x a) (hy : y < 2 ^ b) : okT W y b W.length = decide (rsz x a b ≤ y) := by
  rw [Bool.eq_iff_iff, decide_eq_true_eq, ← h.all]
  unfold okT
  rw [List.take_length, List.all_eq_true]
  constructor
  · intro h1 p hp
    exact (rsB_dg (h.lt p hp) hy).1 (h1 p hp)
  · intro h1 p hp
    exact (rsB_dg (h.lt p hp) hy).2 (h1 p hp)

/-- What lies in memory while the document's words are made. -/
def Od (w wr : World) (v : Value) (W : List (Nat × Nat)) : Prop := Ext w wr ∧ ∃ G, LW w.heap.size wr v G ∧ G.map (·.2) = wds W

theorem Od.ext {w wr w' : World} {v : Value} {W : List (Nat × Nat)} (h : Od w wr v W) (e : Ext wr w') : Od w w' v W := by
  obtain ⟨h1, G, h2, h3⟩ := h
  exact ⟨h1.trans e, G, h2.ext e, h3⟩
theorem Od.form {w wr : World} {v : Value} {W : List (Nat × Nat)} (h : Od w wr v W) : ∃ a c, v = .slice a W.length c ∧ W.length ≤ c ∧ c ≤ maxLen := by
  obtain ⟨_, G, h2, h3⟩ := h
  have hl : G.length = W.length := by have := congrArg List.length h3; simpa [wds] using this
  rw [← hl]
  exact h2.form
theorem Od.at {w wr : World} {a : Option Addr} {m c : Nat} {W : List (Nat × Nat)} (h : Od w wr (.slice a m c) W) (h8 : ∀ p ∈ W, p.2 ≤ 8) (k : Nat) (hk : k < W.length) :
    ∃ g y, a = some ⟨g, 0, none⟩ ∧ wr.cell? ⟨g, k, none⟩ = some (Wd.v y) ∧ y.l = dg W[k].1 W[k].2 ∧ Bits wr y := by
  obtain ⟨_, G, h2, h3⟩ := h
  have hl : G.length = W.length := by have := congrArg List.length h3; simpa [wds] using this
  obtain ⟨g, h4, h5⟩ := h2.at k (by omega)
  have h6 : G[k].2 = dg W[k].1 W[k].2 := by
    have h7 : (G.map (·.2))[k]? = (wds W)[k]? := by rw [h3]
    unfold wds at h7
    rw [List.getElem?_map, List.getElem?_map, List.getElem?_eq_getElem (by omega), List.getElem?_eq_getElem hk] at h7
    simpa using h7
  refine ⟨g, ⟨some ⟨G[k].1, 0, none⟩, G[k].2.length, G[k].2⟩, h4, h5, h6, (h2.ok _ (List.getElem_mem _)).bits ?_⟩
  rw [h6, dg_length]
  have := h8 _ (List.getElem_mem hk)
  unfold maxLen
  omega

end Go.Proofs.Ytakggfogoobdnaa
