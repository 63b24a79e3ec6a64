/-
  The two least weights made one: what that costs; lists of weights of the call's own, and append to them.
-/
import Derived.Test.YtebghhpjpmekkaaCst
namespace Go.Proofs.Ytebghhpjpmekkaa
open Go.RowKit

theorem range_self (l : List Nat) : (List.range l.length).map (fun i => l.getD i 0) = l := by
  apply List.ext_getElem?
  intro i
  rw [List.getElem?_map]
  rcases Nat.lt_or_ge i l.length with h | h
  · rw [List.getElem?_range h, List.getElem?_eq_getElem h]
    simp [List.getD_eq_getElem?_getD, h]
  · rw [List.getElem?_eq_none (by simpa using h), List.getElem?_eq_none h]
    rfl

theorem wof_lz (us : List Nat) : wof (lz us) = fun i => us.getD i 0 := wof_nat us

theorem merge_cost {ws0 us : List Nat} {a b : Nat} {l l' : List Nat} (h8 : ws0.length ≤ 8) (hp : ws0.Perm (a :: b :: us)) (hab : a ≤ b) (hb : ∀ x ∈ us, b ≤ x)
    (h : Best (wof (lz ws0)) ws0.length l) (h' : Best (wof (lz (us ++ [a + b]))) (us ++ [a + b]).length l') :
    tc (wof (lz ws0)) (pr ws0.length l) = a + b + tc (wof (lz (us ++ [a + b]))) (pr (us ++ [a + b]).length l') := by
  have hlen := hp.length_eq
  simp only [List.length_cons] at hlen
  have hn' : (us ++ [a + b]).length ≤ 7 := by simp; omega
  have e1 : (List.range ws0.length).map (wof (lz ws0)) = ws0 := by rw [wof_lz]; exact range_self ws0
  have e2 : (List.range (us ++ [a + b]).length).map (wof (lz (us ++ [a + b]))) = us ++ [a + b] := by rw [wof_lz]; exact range_self _
  have lb1 := h.lb
  have lb2 := h'.lb
  rw [e1] at lb1
  rw [e2] at lb2
  apply Nat.le_antisymm
  · have hf := h'.fine (by omega)
    have hfst := pr_fst (wof (lz (us ++ [a + b]))) (us ++ [a + b]).length l'
    rw [e2] at hfst
    have hdeep : ∀ p ∈ wp (wof (lz (us ++ [a + b]))) (pr (us ++ [a + b]).length l'), p.2 ≤ 6 := by
      intro p hp'
      obtain ⟨q, hq, rfl⟩ := List.mem_map.1 hp'
      obtain ⟨i, hi, rfl⟩ := List.mem_map.1 hq
      have hin : i < l'.length := by rw [h'.len]; simpa using hi
      have hg : l'.getD i 0 = l'[i] := by simp [List.getD_eq_getElem?_getD, hin]
      have := h'.lt _ (List.getElem_mem hin)
      simp only [hg]
      omega
    show pc _ ≤ a + b + pc _
    generalize wp (wof (lz (us ++ [a + b]))) (pr (us ++ [a + b]).length l') = P at hf hfst hdeep
    have hpm : (P.map (·.1)).Perm ((a + b) :: us) := by rw [hfst]; exact List.perm_append_singleton _ _
    obtain ⟨y, R, hPR, hR⟩ := take_first hpm
    have hy := hdeep (a + b, y) (hPR.mem_iff.2 (by simp))
    simp only at hy
    have hf2 := hf.perm hPR
    rw [pc_perm hPR]
    have := lb1 ((a, y + 1) :: (b, y + 1) :: R) (by
      simp only [List.map_cons]
      exact ((hR.cons b).cons a).trans hp.symm) ⟨by
        intro p hp'
        rcases List.mem_cons.1 hp' with rfl | hp'
        · simp; omega
        · rcases List.mem_cons.1 hp' with rfl | hp'
          · simp; omega
          · exact hf2.1 p (by simp [hp']), by
        have := hf2.2
        simp only [pk_cons] at this ⊢
        rw [show 8 - y = (8 - (y + 1)) + 1 by omega, Nat.pow_succ] at this
        omega⟩
    simp only [pc_cons] at this ⊢
    have m1 : a * (y + 1) = a * y + a := Nat.mul_succ _ _
    have m2 : b * (y + 1) = b * y + b := Nat.mul_succ _ _
    have m3 : (a + b) * y = a * y + b * y := Nat.add_mul _ _ _
    have : tc (wof (lz ws0)) (pr ws0.length l) ≤ a + b + ((a + b) * y + pc R) := by omega
    exact this
  · have l3 : LB ws0 (a + b + tc (wof (lz (us ++ [a + b]))) (pr (us ++ [a + b]).length l')) :=
      (lb_join hab hb (lb2.perm (List.perm_append_singleton _ _))).perm hp.symm
    have hfst := pr_fst (wof (lz ws0)) ws0.length l
    rw [e1] at hfst
    exact l3 _ (by rw [hfst]) (h.fine h8)

/-- The least of a list taken out. -/
theorem perm_out (us : List Nat) (i : Nat) (hi : i < us.length) : us.Perm (us[i] :: (us.take i ++ us.drop (i + 1))) := by
  have e : us = us.take i ++ us[i] :: us.drop (i + 1) := by rw [List.getElem_cons_drop, List.take_append_drop]
  exact (List.Perm.of_eq e).trans List.perm_middle

/-- What has been taken out in so many turns. -/
def Mg (ws0 : List Nat) (t s : Nat) (us : List Nat) : Prop :=
  (t = 0 ∧ us = ws0 ∧ s = 0) ∨ (t = 1 ∧ ws0.Perm (s :: us) ∧ ∀ x ∈ us, s ≤ x) ∨ (t = 2 ∧ ∃ a b, ws0.Perm (a :: b :: us) ∧ a ≤ b ∧ (∀ x ∈ us, b ≤ x) ∧ s = a + b)

theorem Mg.len {ws0 us : List Nat} {t s : Nat} (h : Mg ws0 t s us) : us.length + t = ws0.length := by
  rcases h with ⟨rfl, rfl, _⟩ | ⟨rfl, h, _⟩ | ⟨rfl, a, b, h, _⟩
  · rfl
  · have := h.length_eq; simp at this; omega
  · have := h.length_eq; simp at this; omega

theorem Mg.mem {ws0 us : List Nat} {t s : Nat} (h : Mg ws0 t s us) : ∀ x ∈ us, x ∈ ws0 := by
  rcases h with ⟨_, rfl, _⟩ | ⟨_, h, _⟩ | ⟨_, a, b, h, _⟩
  · exact fun x hx => hx
  · exact fun x hx => h.mem_iff.2 (by simp [hx])
  · exact fun x hx => h.mem_iff.2 (by simp [hx])

theorem Mg.next {ws0 us : List Nat} {t s : Nat} (h : Mg ws0 t s us) (ht : t < 2) (i : Nat) (hi : i < us.length) (hmin : ∀ j, j < us.length → us.getD i 0 ≤ us.getD j 0) :
    Mg ws0 (t + 1) (s + us.getD i 0) (us.take i ++ us.drop (i + 1)) := by
  have hg : us.getD i 0 = us[i] := by simp [List.getD_eq_getElem?_getD, hi]
  have hp := perm_out us i hi
  have hle : ∀ x ∈ us.take i ++ us.drop (i + 1), us[i] ≤ x := by
    intro x hx
    have : x ∈ us := hp.mem_iff.2 (by simp [List.mem_append.1 hx])
    obtain ⟨j, hj, rfl⟩ := List.mem_iff_getElem.1 this
    have := hmin j hj
    rw [hg] at this
    simpa [List.getD_eq_getElem?_getD, hj] using this
  rw [hg]
  rcases h with ⟨rfl, rfl, rfl⟩ | ⟨rfl, h, hs⟩ | ⟨rfl, _⟩
  · exact .inr (.inl ⟨rfl, by rw [Nat.zero_add]; exact hp, by rw [Nat.zero_add]; exact hle⟩)
  · exact .inr (.inr ⟨rfl, s, us[i], h.trans (hp.cons s), hs _ (List.getElem_mem hi), hle, rfl⟩)
  · omega

theorem info2' : (Try.prog.info? 2).map (fun i => (i.zero, i.size, i.bytes)) = some (some (.int .i64 0), 1, 8) := by kernel_rfl

/-- v is a list of weights that the call has made since w0. -/
def OwnL (w0 w : World) (v : Value) (z : List Int) : Prop := Ext w0 w ∧ w.ownsRow w0.heap.size 2 1 v z.length (z.map (Value.int .i64))

theorem OwnL.base {w0 w1 w : World} {v : Value} {z : List Int} (h : OwnL w1 w v z) (e : Ext w0 w1) : OwnL w0 w v z := by
  obtain ⟨h0, h1, h2⟩ := h
  refine ⟨e.trans h0, h1, ?_⟩
  rcases h2 with h2 | ⟨g, cap, cur, hv, hg, r⟩
  · exact Or.inl h2
  · exact Or.inr ⟨g, cap, cur, hv, Nat.le_trans e.size hg, r⟩

theorem OwnL.ext {w0 w w' : World} {v : Value} {z : List Int} (h : OwnL w0 w v z) (e : Ext w w') : OwnL w0 w' v z := ⟨h.1.trans e, ownsRow_ext h.2 e⟩

/-- Nothing yet. -/
theorem OwnL.start (w : World) : OwnL w (w.alloc (.cells #[] 2)) (.slice (some ⟨w.heap.size, 0, none⟩) 0 0) [] :=
  ⟨(Ext.refl w).alloc _, rfl, .inr ⟨w.heap.size, 0, #[], rfl, Nat.le_refl _, heap_alloc_new w _, Nat.le_refl _, by simp [maxLen], rfl, rfl⟩⟩

theorem OwnL.form {w0 w : World} {v : Value} {z : List Int} (h : OwnL w0 w v z) (hp : 0 < z.length) : ∃ g cap, v = .slice (some ⟨g, 0, none⟩) z.length cap ∧ z.length ≤ cap ∧ cap ≤ 9223372036854775807 ∧ (∀ i, i < z.length → w.cell? ⟨g, i, none⟩ = some (.int .i64 (z.getD i 0))) := by
  have hown := h.2
  obtain ⟨_, _, h2⟩ := h
  rcases h2 with ⟨_, h2⟩ | ⟨g, cap, cur, rfl, hg, hh, hle, hm, hs, ht⟩
  · omega
  · refine ⟨g, cap, rfl, hle, by unfold maxLen at hm; omega, fun i hi => ?_⟩
    have := World.ownsRow.cellAt hown i (by simpa using hi)
    simpa [List.getD_eq_getElem?_getD, hi] using this

theorem OwnL.nums {w0 w : World} {v : Value} {z : List Int} (h : OwnL w0 w v z) : ∃ x : Nm, v = x.v ∧ x.z = z ∧ Nums w x := by
  have hown := h.2
  obtain ⟨_, _, h2⟩ := h
  rcases h2 with ⟨rfl, h2⟩ | ⟨g, cap, cur, rfl, hg, hh, hle, hm, hs, ht⟩
  · have : z = [] := List.eq_nil_of_length_eq_zero h2
    subst this
    exact ⟨⟨none, 0, []⟩, rfl, rfl, by simp, by simp, by simp, 0, 0, by simp, by simp⟩
  · refine ⟨⟨some ⟨g, 0, none⟩, cap, z⟩, rfl, rfl, hle, hm, by simp, g, 0, fun _ => rfl, fun i hi => ?_⟩
    have := World.ownsRow.cellAt hown i (by simpa using hi)
    have hi' : i < z.length := hi
    simpa [List.getD_eq_getElem?_getD, hi'] using this

/-- append of numbers to a list of the call's own. -/
theorem append_ls (w0 W : World) (v : Value) (z : List Int) (h : OwnL w0 W v z) (y : Nm) (hy : Nums W y) (hb : z.length + y.z.length ≤ 1000) (ty : TypeId) :
    ∃ v' W', (Builtin.append_ #[22, 22] ty #[v, y.v]).run Try.prog W = .ok v' W' ∧ OwnL w0 W' v' (z ++ y.z) := by
  obtain ⟨i0, hi, hz0, hz1, hz2⟩ := info_parts info2'
  obtain ⟨he, hown⟩ := h
  obtain ⟨y1, y2, y0, b, off, y3, y4⟩ := hy
  obtain ⟨ya, yc, yl⟩ := y
  simp only [Nm.v] at y0 y1 y2 y3 y4 hb ⊢
  cases ya with
  | none =>
    have hyc := y0 rfl
    have : yl = [] := List.eq_nil_of_length_eq_zero (by omega)
    subst this
    subst hyc
    refine ⟨v, W, ?_, by rw [List.append_nil]; exact ⟨he, hown⟩⟩
    rcases hown.2 with ⟨rfl, h0⟩ | ⟨g, cap, cur, rfl, _, hh, hle, _⟩
    · simp [Builtin.append_, run_underlying Try.underlying22, Go.sizeOf, typeInfo, hi, Builtin.lenOf, Builtin.firstCells]
    · simp [Builtin.append_, run_underlying Try.underlying22, Go.sizeOf, typeInfo, hi, Builtin.lenOf, Builtin.firstCells, loadCells, hle, storeCells]
  | some ad =>
    obtain ⟨v', W', hr, h1, hgr, _⟩ := run_append_own (P := Try.prog) W w0.heap.size 22 ty 2 i0 (.int .i64 0) 1 8 Try.underlying22 hi hz0 hz1 hz2 rfl (by decide) v z.length (z.map (Value.int .i64)) hown ad yl.length yc (yl.map (Value.int .i64)) (by simp) (by
      intro j u hj
      have hj' : j < yl.length := by
        rcases Nat.lt_or_ge j yl.length with h' | h'
        · exact h'
        · rw [List.getElem?_eq_none (by simpa using h')] at hj; cases hj
      have had := y3 (by omega)
      simp only [Option.some.injEq] at had
      subst had
      rw [Addr.add_lit, y4 j hj']
      simp [hj'] at hj
      simp [List.getD_eq_getElem?_getD, hj', hj]) (by
      intro u hu
      obtain ⟨q, _, rfl⟩ := List.mem_map.1 hu
      rfl) (by unfold maxLen; omega) (by omega) he.size
    refine ⟨v', W', hr, Below.grown he hgr he.size (fun k hk => (hown.lt k hk).1), ?_⟩
    rw [List.length_append, List.map_append]
    exact h1

theorem wpList_appendLs {ops : Array Oper} {rest : List Oper} {o : Oper} {a : Act} {Q : Exit → Act → World → Prop} (hgd : o.guard = none) (s x : Operand)
    (ho : o.op = .call { callee := .builtin .append, args := #[s, x], argTypes := #[22, 22] }) (w0 W : World) (v : Value) (hs : a.eval s = v) (z : List Int) (h : OwnL w0 W v z)
    (y : Nm) (hx : a.eval x = y.v) (hy : Nums W y) (hb : z.length + y.z.length ≤ 1000)
    (k : ∀ v' W', OwnL w0 W' v' (z ++ y.z) → wpList Try.prog ops Q rest (a.put o.dst v') W') : wpList Try.prog ops Q (o :: rest) a W := by
  refine wpList_plain hgd fun K hK => ?_
  obtain ⟨v', w', hr, h2⟩ := append_ls w0 W v z h y hy hb o.type
  unfold Oper.wp execOp
  simp only [ho, resolve, invoke, builtin, Sem.run_bind, Sem.run_pure, Result.andThen_ok, List.map_toArray, List.map_cons, List.map_nil, hs, hx, hr]
  exact hK _ _ (k v' w' h2)

theorem Mg.small {ws0 us : List Nat} {t s M : Nat} (h : Mg ws0 t s us) (hM : ∀ x ∈ ws0, x ≤ M) : s ≤ 2 * M := by
  rcases h with ⟨_, _, rfl⟩ | ⟨_, h, _⟩ | ⟨_, a, b, h, _, _, rfl⟩
  · omega
  · have := hM s (h.mem_iff.2 (by simp)); omega
  · have := hM a (h.mem_iff.2 (by simp))
    have := hM b (h.mem_iff.2 (by simp))
    omega

theorem best_few {wt : Nat → Nat} {n : Nat} {l : List Nat} (h : Best wt n l) (hn : n < 2) : tc wt (pr n l) = 0 := by
  rw [tc_pr]
  have h01 : n = 0 ∨ n = 1 := by omega
  rcases h01 with rfl | rfl
  · rfl
  · have hl := h.len
    have : l.getD 0 0 = 0 := by
      have hin : 0 < l.length := by omega
      have := h.lt _ (List.getElem_mem hin)
      rw [List.getD_eq_getElem?_getD, List.getElem?_eq_getElem hin]
      simp only [Option.getD_some]
      omega
    rw [cs_succ, this]
    simp [cs]

/-- Weights and one more that may be weights too. -/
theorem werl_lz {us : List Nat} (h : us.length ≤ 8) (hM : ∀ x ∈ us, x ≤ 1048576) : werl (lz us) = 0 := by
  apply werl_ok
  · simpa [lz] using h
  · rw [List.any_eq_false]
    intro x hx
    obtain ⟨d, hd, rfl⟩ := List.mem_map.1 hx
    have := hM d hd
    simp [outW]
    omega

theorem lz_append (us vs : List Nat) : lz (us ++ vs) = lz us ++ lz vs := by simp [lz]
theorem lz_take (us : List Nat) (i : Nat) : lz (us.take i) = (lz us).take i := by simp [lz, List.map_take]
theorem lz_drop (us : List Nat) (i : Nat) : lz (us.drop i) = (lz us).drop i := by simp [lz, List.map_drop]
theorem lz_len (us : List Nat) : (lz us).length = us.length := by simp [lz]

/-- The first part of a list. -/
theorem nums_take {W : World} {g cap : Nat} {z : List Int} (hc : z.length ≤ cap) (hm : cap ≤ 9223372036854775807) (h : ∀ i, i < z.length → W.cell? ⟨g, i, none⟩ = some (.int .i64 (z.getD i 0))) (k : Nat) (hk : k ≤ z.length) :
    Nums W ⟨some ⟨g, 0, none⟩, cap, z.take k⟩ := by
  refine ⟨by simp; omega, by unfold maxLen; omega, by simp, g, 0, fun _ => rfl, fun i hi => ?_⟩
  have hik : i < k := by simp at hi; omega
  rw [Nat.zero_add, h i (by omega)]
  simp [List.getD_eq_getElem?_getD, hik]

/-- What is behind it. -/
theorem nums_drop {W : World} {g cap : Nat} {z : List Int} (hc : z.length ≤ cap) (hm : cap ≤ 9223372036854775807) (h : ∀ i, i < z.length → W.cell? ⟨g, i, none⟩ = some (.int .i64 (z.getD i 0))) (k : Nat) (hk : k ≤ z.length) :
    Nums W ⟨if cap = k then some ⟨g, 0, none⟩ else some ⟨g, k, none⟩, cap - k, z.drop k⟩ := by
  refine ⟨by simp; omega, by unfold maxLen; simp only; omega, by split <;> simp, g, k, fun h0 => ?_, fun i hi => ?_⟩
  · simp at h0
    rw [if_neg (by omega)]
  · simp only [List.length_drop] at hi
    rw [h (k + i) (by omega)]
    simp [List.getD_eq_getElem?_getD]

end Go.Proofs.Ytebghhpjpmekkaa
