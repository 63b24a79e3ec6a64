/-
  Lists of trees that lie in a block of the call's own, at whatever place in it; append of one tree to such a list.
-/
import Derived.Test.YtakggfogoobdnaaLvs
import Derived.Test.YtakggfogoobdnaaSto
namespace Go.Proofs.Ytakggfogoobdnaa
open Go.RowKit

/-- v is the list R of trees, in the block B. -/
def Tv (w : World) (B : Nat) (v : Value) (R : List Tr) : Prop :=
  ∃ (pre post : List Value) (cap : Nat), v = .slice (some ⟨B, pre.length, none⟩) R.length cap ∧ Row w B 66 (pre ++ fl R ++ post) ∧ R.length ≤ cap ∧ cap * 2 ≤ R.length * 2 + post.length ∧ cap ≤ maxLen

theorem Tv.keep {w w' : World} {B : Nat} {v : Value} {R : List Tr} (h : Tv w B v R) (hb : w'.heap[B]? = w.heap[B]?) : Tv w' B v R := by
  obtain ⟨pre, post, cap, h1, h2, h3⟩ := h
  refine ⟨pre, post, cap, h1, ?_, h3⟩
  unfold Row at *
  rw [hb]
  exact h2

theorem KB.grown {B : Nat} {w w' : World} (h : w.grownBy w' (some B)) : KB B w w' := by
  obtain ⟨_, _, _, h4, h5⟩ := h
  exact ⟨h4, fun k hk hne => h5 k hk (by simpa using hne)⟩

theorem fl_one (t : Tr) : ∀ u ∈ [Value.int .i64 t.x, t.v], u.oneCell' = true := by
  intro u hu
  simp only [List.mem_cons, List.not_mem_nil, or_false] at hu
  rcases hu with rfl | rfl <;> rfl

theorem append_tree (W : World) (B : Nat) (v : Value) (R : List Tr) (t : Tr) (K : Nat) (h : Tv W B v R) (hK : Row W K 66 [.int .i64 t.x, t.v]) (hn : R.length ≤ 1000) (ty : TypeId) :
    ∃ v' W' B', (Builtin.append_ #[62, 62] ty #[v, .slice (some ⟨K, 0, none⟩) 1 1]).run Try.prog W = .ok v' W' ∧ Tv W' B' v' (R ++ [t]) ∧ KB B W W' ∧ (B' = B ∨ B' = W.heap.size) ∧ (∀ w0 : World, Ext w0 W → w0.heap.size ≤ B → Ext w0 W') := by
  obtain ⟨i, hi, hz0, hz1, hz2⟩ := info_parts info66
  obtain ⟨pre, post, cap, rfl, hr, hc1, hc2, hc3⟩ := h
  have hnews : ∀ j u, [Value.int .i64 t.x, t.v][j]? = some u → W.cell? ((⟨K, 0, none⟩ : Addr).add j) = some u := by
    intro j u hj
    rw [Addr.add_lit, Nat.zero_add]
    have hj2 : j < 2 := by
      rcases Nat.lt_or_ge j 2 with h | h
      · exact h
      · rw [List.getElem?_eq_none (by simpa using h)] at hj; cases hj
    have := hK.cell j (by simpa using hj2)
    rw [this]
    rw [List.getElem?_eq_getElem (by simpa using hj2)] at hj
    exact hj
  have hB : W.heap[B]? = some (.cells (pre ++ fl R ++ post).toArray 66 (0, 0)) := hr
  by_cases hroom : R.length + 1 ≤ cap
  · obtain ⟨p0, p1, post', rfl⟩ : ∃ p0 p1 post', post = p0 :: p1 :: post' := by
      match post, hc2 with
      | [], h => simp at h; omega
      | [_], h => simp at h; omega
      | p0 :: p1 :: post', _ => exact ⟨p0, p1, post', rfl⟩
    have hst := run_storeCells_at Try.prog B (pre.length + R.length * i.size) 66 [.int .i64 t.x, t.v] 0 (pre ++ fl R ++ p0 :: p1 :: post').toArray W hB (by rw [hz1]; simp [fl_len]; omega) (fl_one t)
    have hf := run_firstCells_some (P := Try.prog) W i.size 1 ⟨K, 0, none⟩ 1 1 [.int .i64 t.x, t.v] (by rw [hz1]; rfl) hnews
    have hgr : W.grownBy (W.setRow B (pre ++ fl (R ++ [t]) ++ post').toArray) (some B) := ⟨rfl, rfl, rfl, by simp, fun k _ hk => setRow_other W B k _ (fun e => hk (by rw [e]))⟩
    refine ⟨.slice (some ⟨B, pre.length, none⟩) (R.length + 1) cap, W.setRow B (pre ++ fl (R ++ [t]) ++ post').toArray, B, ?_, ⟨pre, post', cap, by simp, setRow_heap W B _ _ 66 _ hB, by simpa using hroom, by simp at hc2 ⊢; omega, hc3⟩, KB.grown hgr, .inl rfl, fun w0 he hw0 => Below.grown he hgr he.size (fun k hk => by injection hk with hk; rw [← hk]; exact hw0)⟩
    have e : ((pre ++ fl R ++ p0 :: p1 :: post').toArray.toList.take (pre.length + R.length * i.size + 0) ++ [.int .i64 t.x, t.v] ++ (pre ++ fl R ++ p0 :: p1 :: post').toArray.toList.drop (pre.length + R.length * i.size + 0 + [Value.int .i64 t.x, t.v].length)) = pre ++ fl (R ++ [t]) ++ post' := by
      rw [hz1]
      have hl : (pre ++ fl R).length = pre.length + R.length * 2 := by simp [fl_len]
      simp only [Nat.add_zero, List.length_cons, List.length_nil, Nat.zero_add]
      rw [← hl, List.take_left, show (pre ++ fl R).length + (1 + 1) = (pre ++ fl R ++ [p0, p1]).length by simp; omega, show pre ++ fl R ++ p0 :: p1 :: post' = (pre ++ fl R ++ [p0, p1]) ++ post' by simp, List.drop_left, fl_append, fl_cons]
      simp [fl]
    rw [e] at hst
    simp [Builtin.append_, run_underlying Try.underlying62, Go.sizeOf, typeInfo, hi, Builtin.lenOf, hroom, hf, Addr.add_lit, hst]
  · have holds : ∀ j u, (fl R)[j]? = some u → W.cell? ((⟨B, pre.length, none⟩ : Addr).add j) = some u := by
      intro j u hj
      rw [Addr.add_lit, cell_of_row W B _ _ 66 (0, 0) hB]
      have hjl : j < (fl R).length := by
        rcases Nat.lt_or_ge j (fl R).length with h | h
        · exact h
        · rw [List.getElem?_eq_none h] at hj; cases hj
      simp only [List.getElem?_toArray]
      rw [List.append_assoc, List.getElem?_append_right (by omega), Nat.add_sub_cancel_left, List.getElem?_append_left hjl]
      exact hj
    have hr2 := run_append_grow (P := Try.prog) W 62 ty 66 i _ Try.underlying62 hi hz0 ⟨B, pre.length, none⟩ R.length cap (fl R) (by rw [hz1, fl_len]) holds ⟨K, 0, none⟩ 1 1 [.int .i64 t.x, t.v] (by rw [hz1]; rfl) hnews (by omega) (by omega) (growslice_fits (by omega) (by rw [hz2]; omega))
    have hge := grownCap_ge W (R.length + 1) cap 66
    have hcm := grownCap_le_maxLen W (R.length + 1) cap 66 (by unfold maxLen; omega)
    generalize grownCap W (R.length + 1) cap 66 = G at *
    have hgr : W.grownBy (W.drew.alloc (.cells ((fl R).toArray ++ [Value.int .i64 t.x, t.v].toArray ++ Builtin.zeroCells (Value.cells (.agg #[.int .i64 0, .slice none 0 0])) (G - (R.length + 1))) 66)) (some B) := ⟨rfl, rfl, rfl, by simp, fun k hk _ => heap_alloc_old W.drew _ hk⟩
    refine ⟨_, _, W.heap.size, hr2, ⟨[], (Builtin.zeroCells (Value.cells (.agg #[.int .i64 0, .slice none 0 0])) (G - (R.length + 1))).toList, G, by simp, ?_, by simpa using hge, ?_, hcm⟩, KB.grown hgr, .inr rfl, fun w0 he hw0 => Below.grown he hgr he.size (fun k hk => by injection hk with hk; rw [← hk]; exact hw0)⟩
    · have := heap_alloc_new W.drew (.cells ((fl R).toArray ++ [Value.int .i64 t.x, t.v].toArray ++ Builtin.zeroCells (Value.cells (.agg #[.int .i64 0, .slice none 0 0])) (G - (R.length + 1))) 66)
      unfold Row
      refine this.trans ?_
      congr 2
      apply Array.ext'
      rw [fl_append, fl_cons]
      simp [fl]
    · have hzl : (Builtin.zeroCells (Value.cells (.agg #[.int .i64 0, .slice none 0 0])) (G - (R.length + 1))).toList.length = (G - (R.length + 1)) * 2 := by
        rw [Array.length_toList, size_zeroCells]
        simp [Value.cells]
      rw [hzl]
      simp only [List.length_append, List.length_cons, List.length_nil]
      omega

end Go.Proofs.Ytakggfogoobdnaa
