/-
  Lists of lists of numbers that a call makes by append: where they lie, and what an append leaves as it was.
-/
import Derived.Test.YtakggfogoobdnaaJn
namespace Go.Proofs.Ytakggfogoobdnaa
open Go.RowKit

theorem info27 : (Try.prog.info? 27).map (fun i => (i.zero, i.size, i.bytes)) = some (some (.slice none 0 0), 1, 24) := by kernel_rfl

/-- A list of numbers in a block of numbers. -/
def NumsT (w : World) (x : Nm) : Prop := Nums w x ∧ ∀ p, x.a = some p → ∃ cs fz, w.heap[p.block]? = some (.cells cs 3 fz)

theorem NumsT.lt {w : World} {x : Nm} (h : NumsT w x) (p : Addr) (hp : x.a = some p) : p.block < w.heap.size := by
  obtain ⟨cs, fz, hc⟩ := h.2 p hp
  exact lt_of_block hc

/-- What holds the numbers is as it was. -/
theorem NumsT.same {w w' : World} {x : Nm} (h : NumsT w x) (e : ∀ p, x.a = some p → w'.heap[p.block]? = w.heap[p.block]?) : NumsT w' x := by
  obtain ⟨⟨h1, h2, h0, b, o, h3, h4⟩, h5⟩ := h
  refine ⟨⟨h1, h2, h0, b, o, h3, fun i hi => ?_⟩, fun p hp => ?_⟩
  · have e0 := e ⟨b, o, none⟩ (h3 (by omega))
    rw [World.cell?_of_block (w := w) (a := ⟨b, o + i, none⟩) e0]
    exact h4 i hi
  · rw [e p hp]
    exact h5 p hp
theorem NumsT.ext {w w' : World} {x : Nm} (h : NumsT w x) (e : Ext w w') : NumsT w' x := h.same fun p hp => e.block _ (h.lt p hp)

/-- v is a list of these lists, all of it in blocks from base on. -/
structure LL (base : Nat) (w : World) (v : Value) (G : List Nm) : Prop where
  own : w.ownsRow base 27 1 v G.length (G.map Nm.v)
  ok : ∀ x ∈ G, NumsT w x ∧ ∀ p, x.a = some p → base ≤ p.block

theorem LL.nil (base : Nat) (w : World) : LL base w (.slice none 0 0) [] := ⟨World.ownsRow_nil _ _ _ _, fun x hx => by cases hx⟩

theorem LL.form {base : Nat} {w : World} {v : Value} {G : List Nm} (h : LL base w v G) : ∃ a c, v = .slice a G.length c ∧ G.length ≤ c ∧ c ≤ maxLen := by
  rcases h.own.2 with ⟨rfl, h0⟩ | ⟨g, cap, cur, rfl, _, _, hc, hm, _⟩
  · exact ⟨none, 0, by rw [h0], by omega, by unfold maxLen; omega⟩
  · exact ⟨_, _, rfl, hc, hm⟩

theorem LL.at {base : Nat} {w : World} {a : Option Addr} {m c : Nat} {G : List Nm} (h : LL base w (.slice a m c) G) (k : Nat) (hk : k < G.length) :
    ∃ g, a = some ⟨g, 0, none⟩ ∧ w.cell? ⟨g, k, none⟩ = some G[k].v := by
  have hown := h.own
  rcases h.own.2 with ⟨hv, h0⟩ | ⟨g, cap, cur, hv, hg, _⟩
  · omega
  · injection hv with h1 h2 h3
    subst h1 h2 h3
    refine ⟨g, rfl, ?_⟩
    rw [hown.cellAt _ (by omega)]
    simp [hk]

/-- All of it is as it was. -/
theorem LL.seg {base : Nat} {w w' : World} {v : Value} {G : List Nm} (h : LL base w v G) (e : ∀ k, base ≤ k → k < w.heap.size → w'.heap[k]? = w.heap[k]?) : LL base w' v G := by
  refine ⟨⟨h.own.1, ?_⟩, fun x hx => ?_⟩
  · rcases h.own.2 with h2 | ⟨g, cap, cur, hv, hg, hh, r⟩
    · exact .inl h2
    · exact .inr ⟨g, cap, cur, hv, hg, by rw [e g hg (lt_of_block hh)]; exact hh, r⟩
  · obtain ⟨h1, h2⟩ := h.ok x hx
    exact ⟨h1.same fun p hp => e _ (h2 p hp) (h1.lt p hp), h2⟩
theorem LL.ext {base : Nat} {w w' : World} {v : Value} {G : List Nm} (h : LL base w v G) (e : Ext w w') : LL base w' v G := h.seg fun k _ hk => e.block k hk

theorem LL.mono {base base' : Nat} {w : World} {v : Value} {G : List Nm} (h : LL base w v G) (e : base' ≤ base) : LL base' w v G :=
  ⟨⟨h.own.1, h.own.2.imp id (fun ⟨g, cap, cur, h1, h2, h3⟩ => ⟨g, cap, cur, h1, Nat.le_trans e h2, h3⟩)⟩, fun x hx => ⟨(h.ok x hx).1, fun p hp => Nat.le_trans e ((h.ok x hx).2 p hp)⟩⟩

/-- Its own block is none of a block of numbers. -/
theorem LL.ne {base : Nat} {w : World} {v : Value} {G : List Nm} (h : LL base w v G) {k : Nat} {cs : Array Value} {fz : Nat × Nat} (hk : w.heap[k]? = some (.cells cs 3 fz)) : some k ≠ v.ownBlock := by
  rcases h.own.2 with ⟨rfl, _⟩ | ⟨g, cap, cur, rfl, _, hh, _⟩
  · simp [Value.ownBlock]
  · simp only [Value.ownBlock, ne_eq, Option.some.injEq]
    rintro rfl
    rw [hh] at hk
    simp at hk

/-- An append writes its own block, or a new one. -/
theorem append_block {w w' : World} {base : Nat} {v v' : Value} {n : Nat} {xs : List Value} {ty : TypeId} {ad : Addr} {c : Nat} {y : Value} (hown : w.ownsRow base 27 1 v n xs)
    (hy : w.cell? ad = some y) (h1 : y.oneCell' = true) (hsp : ad.spot = none) (h63 : n + 1 ≤ 1000000000) (hr : (Builtin.append_ #[49, 49] ty #[v, .slice (some ad) 1 c]).run Try.prog w = .ok v' w') :
    v'.ownBlock = v.ownBlock ∨ ∃ k, v'.ownBlock = some k ∧ w.heap.size ≤ k := by
  obtain ⟨i0, hi, hz0, hz1, hz2⟩ := info_parts info27
  have hnews : ∀ j u, [y][j]? = some u → w.cell? (ad.add j) = some u := by
    intro j u hj
    have hj0 : j = 0 := by
      rcases j with _ | j
      · rfl
      · simp at hj
    subst hj0
    simp at hj
    subst hj
    obtain ⟨b, o, s⟩ := ad
    simp only at hsp
    subst hsp
    rw [Addr.add_lit]
    exact hy
  have hone : ∀ u ∈ [y], u.oneCell' = true := by
    intro u hu
    simp only [List.mem_singleton] at hu
    subst hu
    exact h1
  rcases hown.2 with ⟨rfl, rfl⟩ | ⟨g, cap, cur, rfl, hbg, hg, hnc, hcm, hcs, htake⟩
  · have hr2 := run_append_nil (P := Try.prog) w 49 ty 27 i0 _ Try.underlying49 hi hz0 ad 1 c [y] (by rw [hz1]; rfl) hnews (by omega) (by omega) (by rw [hz2]; omega)
    rw [hr2] at hr
    injection hr with e1 e2
    subst e1
    exact .inr ⟨_, rfl, Nat.le_refl _⟩
  · by_cases hroom : n + 1 ≤ cap
    · have hr2 := run_append_room (P := Try.prog) w 49 ty 27 i0 Try.underlying49 hi g n cap cur hg ad 1 c [y] (by rw [hz1]; rfl) hnews hone hroom (by rw [hz1]; simp only [List.length_cons, List.length_nil]; omega)
      rw [hr2] at hr
      injection hr with e1 e2
      subst e1
      exact .inl rfl
    · have holds : ∀ j u, xs[j]? = some u → w.cell? ((⟨g, 0, none⟩ : Addr).add j) = some u := hown.cells (g := g) rfl
      have hr2 := run_append_grow (P := Try.prog) w 49 ty 27 i0 _ Try.underlying49 hi hz0 ⟨g, 0, none⟩ n cap xs (by rw [hz1]; exact hown.1) holds ad 1 c [y] (by rw [hz1]; rfl) hnews (by omega) (by omega) (growslice_fits (by omega) (by rw [hz2]; omega))
      rw [hr2] at hr
      injection hr with e1 e2
      subst e1
      exact .inr ⟨_, rfl, Nat.le_refl _⟩

/-- A list put behind the others. -/
theorem wpList_appendLL {ops : Array Oper} {rest : List Oper} {o : Oper} {a : Act} {Q : Exit → Act → World → Prop} (hgd : o.guard = none) (s x : Operand)
    (ho : o.op = .call { callee := .builtin .append, args := #[s, x], argTypes := #[49, 49] }) (base : Nat) (W : World) (v : Value) (hs : a.eval s = v) (G : List Nm) (hG : LL base W v G)
    (y : Nm) (yv : Value) (hyv : yv = y.v) (k : Nat) (hx : a.eval x = .slice (some ⟨k, 0, none⟩) 1 1) (hk : k = W.heap.size) (hy : NumsT W y ∧ ∀ p, y.a = some p → base ≤ p.block) (hb : base ≤ W.heap.size) (hl : G.length ≤ 900000000)
    (K : ∀ v' w', LL base w' v' (G ++ [y]) → (∀ w0 : World, w0.heap.size ≤ base → Ext w0 W → Ext w0 w') → (∀ k, k < W.heap.size → some k ≠ v.ownBlock → w'.heap[k]? = W.heap[k]?) → W.heap.size ≤ w'.heap.size → (v'.ownBlock = v.ownBlock ∨ ∃ k, v'.ownBlock = some k ∧ W.heap.size ≤ k) → wpList Try.prog ops Q rest (a.put o.dst v') w') :
    wpList Try.prog ops Q (o :: rest) a (W.alloc (.cells #[yv] 27)) := by
  subst hyv hk
  obtain ⟨i0, hi, hz0, hz1, hz2⟩ := info_parts info27
  have hc := cell_one_new W y.v 27
  refine wpList_plain hgd fun K' hK => ?_
  have hA : LL base (W.alloc (.cells #[y.v] 27)) v G := hG.ext ((Ext.refl W).alloc _)
  obtain ⟨v', w', hr, h2, h3, _⟩ := run_append_own (P := Try.prog) (W.alloc (.cells #[y.v] 27)) base 49 o.type 27 i0 (.slice none 0 0) 1 24 Try.underlying49 hi hz0 hz1 hz2 rfl (by decide) v G.length (G.map Nm.v) hA.own ⟨W.heap.size, 0, none⟩ 1 1 [y.v] rfl hc (by
    intro u hu
    simp only [List.mem_singleton] at hu
    subst hu
    rfl) (by unfold maxLen; omega) (by omega) (by simp; omega)
  have hbl := append_block (ad := ⟨W.heap.size, 0, none⟩) (y := y.v) hA.own (hc 0 y.v rfl) rfl rfl (by omega) hr
  have hsz : W.heap.size ≤ w'.heap.size := by have := h3.size; simp at this; omega
  have hkeep : ∀ k, k < W.heap.size → some k ≠ v.ownBlock → w'.heap[k]? = W.heap[k]? := fun k hk hne => by
    rw [h3.block k (by simp; omega) hne, heap_alloc_old _ _ hk]
  have hLL : LL base w' v' (G ++ [y]) := by
    refine ⟨by simpa using h2, fun x hx => ?_⟩
    have hxx : NumsT W x ∧ ∀ p, x.a = some p → base ≤ p.block := by
      rcases List.mem_append.1 hx with hx | hx
      · exact hG.ok x hx
      · simp only [List.mem_singleton] at hx
        subst hx
        exact hy
    refine ⟨hxx.1.same fun p hp => ?_, hxx.2⟩
    obtain ⟨cs, fz, hcs⟩ := hxx.1.2 p hp
    exact hkeep _ (hxx.1.lt p hp) (hG.ne hcs)
  have hbl' : v'.ownBlock = v.ownBlock ∨ ∃ k, v'.ownBlock = some k ∧ W.heap.size ≤ k := by
    rcases hbl with h | ⟨k, h, h'⟩
    · exact .inl h
    · exact .inr ⟨k, h, by simp at h'; omega⟩
  unfold Oper.wp execOp
  simp only [ho, resolve, invoke, builtin, Sem.run_bind, Sem.run_pure, Result.andThen_ok, List.map_toArray, List.map_cons, List.map_nil, hs, hx, hr]
  refine hK _ _ (K v' w' hLL (fun w0 h0 hE => ?_) hkeep hsz hbl')
  have e1 : Ext w0 (W.alloc (.cells #[y.v] 27)) := hE.alloc _
  exact Below.grown e1 h3 e1.size (fun k hk => Nat.le_trans h0 (hA.own.lt k hk).1)

end Go.Proofs.Ytakggfogoobdnaa
