/-
  Parts of words; lists of words that a call makes by append, the words lying where they lay.
-/
import Derived.Test.YtkccdhidmihekaaOwn
namespace Go.Proofs.Ytkccdhidmihekaa
open Go.RowKit

theorem info22 : (Try.prog.info? 22).map (fun i => (i.zero, i.size, i.bytes)) = some (some (.slice none 0 0), 1, 24) := by kernel_rfl

theorem Bits.first {w : World} {a : Option Addr} {q c : Nat} {l : List Int} (h : Bits w ⟨a, c, l⟩) (hq : q ≤ l.length) : Bits w ⟨a, c, l.take q⟩ := by
  obtain ⟨h1, h2, h0, b, o, h3, h4⟩ := h
  simp only at h1 h2 h0 h3 h4
  have hlen : (l.take q).length = q := by rw [List.length_take]; omega
  refine ⟨by simp only; omega, h2, h0, b, o, fun hl => h3 (by simp only at hl; omega), fun i hi => ?_⟩
  simp only at hi
  rw [h4 i (by omega)]
  simp [List.getD_eq_getElem?_getD, show i < q by omega]

theorem Bits.rest {w : World} {a : Option Addr} {q c : Nat} {l : List Int} (h : Bits w ⟨a, c, l⟩) (hq : q ≤ l.length) (p : Addr) (ha : a = some p) : Bits w ⟨if c = q then some p else some (p.add q), c - q, l.drop q⟩ := by
  subst ha
  obtain ⟨h1, h2, h0, b, o, h3, h4⟩ := h
  simp only at h1 h2 h0 h3 h4
  by_cases hc : c = q
  · rw [if_pos hc, List.drop_eq_nil_of_le (by omega)]
    exact ⟨Nat.zero_le _, Nat.le_trans (Nat.sub_le _ _) h2, by simp, 0, 0, by simp, by simp⟩
  · rw [if_neg hc]
    refine ⟨by simp; omega, by simp; omega, by simp, b, o + q, fun hl => ?_, fun i hi => ?_⟩
    · simp only [List.length_drop] at hl
      have hp := h3 (by omega)
      injection hp with hp
      subst hp
      simp only
      rw [Addr.add_lit]
    · simp only [List.length_drop] at hi
      have := h4 (q + i) (by omega)
      rw [Nat.add_assoc, this]
      simp [List.getD_eq_getElem?_getD, List.getElem?_drop]

/-- Blocks of other types are other blocks. -/
theorem own_apart {w : World} {b1 b2 s1 s2 : Nat} {e1 e2 : TypeId} {v1 v2 : Value} {n1 n2 : Nat} {x1 x2 : List Value} (h1 : w.ownsRow b1 e1 s1 v1 n1 x1) (h2 : w.ownsRow b2 e2 s2 v2 n2 x2) (hne : e1 ≠ e2) :
    v1.ownBlock = none ∨ v1.ownBlock ≠ v2.ownBlock := by
  rcases h1.2 with ⟨rfl, _⟩ | ⟨g, cap, cur, rfl, _, hh, _⟩
  · exact Or.inl rfl
  · refine Or.inr ?_
    rcases h2.2 with ⟨rfl, _⟩ | ⟨g', cap', cur', rfl, _, hh', _⟩
    · simp [Value.ownBlock]
    · simp only [Value.ownBlock, ne_eq, Option.some.injEq]
      intro e
      rw [e] at hh
      rw [hh'] at hh
      injection hh with hh
      injection hh with _ h3 _
      exact hne h3.symm

/-- v is a list of words that was made since w0; their bytes lie where they lay in wc. -/
structure OwnW (wc w0 w : World) (v : Value) (X : List Wd) : Prop where
  ext : Ext w0 w
  own : w.ownsRow w0.heap.size 22 1 v X.length (X.map Wd.v)
  ok : ∀ x ∈ X, Bits wc x

theorem OwnW.mono {wc w0 w w' : World} {v : Value} {X : List Wd} (h : OwnW wc w0 w v X) (e : Ext w w') : OwnW wc w0 w' v X := ⟨h.ext.trans e, ownsRow_mono h.own e, h.ok⟩
theorem OwnW.form {wc w0 w : World} {v : Value} {X : List Wd} (h : OwnW wc w0 w v X) : ∃ a c, v = .slice a X.length c ∧ X.length ≤ c ∧ c ≤ maxLen := by
  rcases h.own.2 with ⟨rfl, h0⟩ | ⟨g, cap, cur, rfl, _, _, hc, hm, _⟩
  · exact ⟨none, 0, by rw [h0], by omega, by unfold maxLen; omega⟩
  · exact ⟨_, _, rfl, hc, hm⟩
theorem OwnW.at {wc w0 w : World} {a : Option Addr} {m c : Nat} {X : List Wd} (h : OwnW wc w0 w (.slice a m c) X) (k : Nat) (hk : k < X.length) :
    ∃ G, a = some ⟨G, 0, none⟩ ∧ w.cell? ⟨G, k, none⟩ = some X[k].v := by
  have hown := h.own
  rcases h.own.2 with ⟨hv, h0⟩ | ⟨g, cap, cur, hv, hg, _⟩
  · omega
  · injection hv with h1 h2 h3
    subst h1 h2 h3
    refine ⟨g, rfl, ?_⟩
    rw [hown.cellAt _ (by omega)]
    simp [hk]
theorem OwnW.len {wc w0 w : World} {a : Option Addr} {m c : Nat} {X : List Wd} (h : OwnW wc w0 w (.slice a m c) X) : X.length = m := by
  obtain ⟨_, _, e, _⟩ := h.form
  injection e with _ e _
  exact e.symm
theorem OwnW.wds {wc w0 w : World} {a : Option Addr} {m c : Nat} {X : List Wd} (h : OwnW wc w0 w (.slice a m c) X) (e : Ext wc w) : Wds w a c X := by
  obtain ⟨a', c', e', h1, h2⟩ := h.form
  injection e' with e1 e2 e3
  subst e1 e2 e3
  by_cases h0 : X.length = 0
  · refine ⟨h1, h2, fun x hx => (h.ok x hx).ext e, 0, 0, fun h => by omega, fun i hi => by omega⟩
  · obtain ⟨G, hG, _⟩ := h.at 0 (by omega)
    refine ⟨h1, h2, fun x hx => (h.ok x hx).ext e, G, 0, fun _ => hG, fun i hi => ?_⟩
    obtain ⟨G', hG', hc⟩ := h.at i hi
    rw [hG] at hG'
    injection hG' with hG'
    injection hG' with hG'
    subst hG'
    rw [Nat.zero_add]
    exact hc

theorem bits_none (w : World) : Bits w ⟨none, 0, []⟩ := ⟨by simp, by simp, by simp, 0, 0, by simp, by simp⟩

theorem OwnW.one (wc w : World) : OwnW wc w (w.alloc (.cells #[.slice none 0 0] 22)) (.slice (some ⟨w.heap.size, 0, none⟩) 1 1) [⟨none, 0, []⟩] :=
  ⟨(Ext.refl w).alloc _, ⟨rfl, Or.inr ⟨_, 1, #[.slice none 0 0], rfl, Nat.le_refl _, heap_alloc_new _ _, Nat.le_refl _, by simp [maxLen], rfl, rfl⟩⟩, fun x hx => by
    simp only [List.mem_singleton] at hx
    subst hx
    exact bits_none _⟩

theorem wpList_appendW {ops : Array Oper} {rest : List Oper} {o : Oper} {a : Act} {Q : Exit → Act → World → Prop} (hgd : o.guard = none) (s x : Operand)
    (ho : o.op = .call { callee := .builtin .append, args := #[s, x], argTypes := #[45, 45] }) (wc w0 W : World) (v : Value) (hs : a.eval s = v) (X : List Wd) (hX : OwnW wc w0 W v X)
    (y : Wd) (yv : Value) (hyv : yv = y.v) (k : Nat) (hx : a.eval x = .slice (some ⟨k, 0, none⟩) 1 1) (hk : k = W.heap.size) (hy : Bits wc y) (hl : X.length ≤ 10000)
    (K : ∀ a' m' c' w', m' = X.length + 1 → OwnW wc w0 w' (.slice a' m' c') (X ++ [y]) → (W.alloc (.cells #[yv] 22)).grownBy w' v.ownBlock → wpList Try.prog ops Q rest (a.put o.dst (.slice a' m' c')) w') : wpList Try.prog ops Q (o :: rest) a (W.alloc (.cells #[yv] 22)) := by
  subst hyv hk
  obtain ⟨i0, hi, hz0, hz1, hz2⟩ := info_parts info22
  refine wpList_append_own _ hgd s x 45 ho w0.heap.size 22 i0 (.slice none 0 0) 1 24 Try.underlying45 hi hz0 hz1 hz2 rfl (by decide) v X.length (X.map Wd.v) hs (hX.own.alloc _) ⟨W.heap.size, 0, none⟩ 1 1 [y.v] hx rfl ?_ ?_ ?_ ?_ ?_ ?_
  · exact cell_one_new _ _ _
  · intro u hu; simp at hu; subst hu; rfl
  · unfold maxLen; omega
  · omega
  · have := hX.ext.size; simp; omega
  · intro v' w' hown' hgr _
    have hO : OwnW wc w0 w' v' (X ++ [y]) := by
      refine ⟨?_, ?_, ?_⟩
      · have e1 : Ext w0 (W.alloc (.cells #[y.v] 22)) := hX.ext.alloc _
        exact Below.grown e1 hgr e1.size (fun k hk => (hX.own.lt k hk).1)
      · simpa using hown'
      · intro x hx
        rcases List.mem_append.1 hx with hx | hx
        · exact hX.ok x hx
        · simp only [List.mem_singleton] at hx
          subst hx
          exact hy
    obtain ⟨a', c', e, _⟩ := hO.form
    rw [List.length_append, List.length_singleton] at e
    subst e
    exact K a' _ c' w' rfl hO hgr

theorem exec_append {P : Program} (ρ : Operand → Value) (o : Oper) (s x : Operand) (t : TypeId) (ho : o.op = .call { callee := .builtin .append, args := #[s, x], argTypes := #[t, t] }) (v sv v' : Value) (W W' : World) (hs : ρ s = v) (hx : ρ x = sv)
    (hr : (Builtin.append_ #[t, t] o.type #[v, sv]).run P W = .ok v' W') : (execOp ρ o).run P W = .ok (.value v') W' := by
  unfold execOp
  simp only [ho, resolve, invoke, builtin, Sem.run_bind, Sem.run_pure, Result.andThen_ok, List.map_toArray, List.map_cons, List.map_nil, hs, hx, hr]

end Go.Proofs.Ytkccdhidmihekaa
