/-
  huff.join: one tree of two.
-/
import Derived.Test.YtakggfogoobdnaaCat
import Derived.Test.YtakggfogoobdnaaSto
import Derived.Handy
namespace Go.Proofs.Ytakggfogoobdnaa
open Go.RowKit

theorem OwnN.base {w0 w1 w : World} {v : Value} {z : List Int} (h : OwnN w1 w v z) (e : Ext w0 w1) : OwnN w0 w v z := by
  obtain ⟨h0, h1, h2⟩ := h
  refine ⟨e.trans h0, h1, ?_⟩
  rcases h2 with h2 | ⟨g, cap, cur, hv, hg, r⟩
  · exact Or.inl h2
  · exact Or.inr ⟨g, cap, cur, hv, Nat.le_trans e.size hg, r⟩

/-- A list that is not empty has a block. -/
theorem OwnN.some {w0 w : World} {v : Value} {z : List Int} (h : OwnN w0 w v z) (hp : 0 < z.length) : ∃ g c, v = .slice (some ⟨g, 0, none⟩) z.length c := by
  obtain ⟨_, _, h2⟩ := h
  rcases h2 with ⟨_, h2⟩ | ⟨g, cap, cur, hv, _⟩
  · omega
  · exact ⟨g, cap, hv⟩

/-- Its block is none of another type. -/
theorem OwnN.other {w0 w : World} {v : Value} {z : List Int} {B i : Nat} {l : List Value} {u : Value} {t : TypeId} (h : OwnN w0 w v z) (hr : Row w B t l) (ht : t ≠ 3) (hB : w0.heap.size ≤ B) : OwnN w0 (w.setCell ⟨B, i, none⟩ u) v z := by
  obtain ⟨h0, h1, h2⟩ := h
  refine ⟨h0.setCell hB _, h1, ?_⟩
  rcases h2 with h2 | ⟨g, cap, cur, hv, hg, hc, r⟩
  · exact Or.inl h2
  · refine Or.inr ⟨g, cap, cur, hv, hg, ?_, r⟩
    have hne : B ≠ g := by
      rintro rfl
      unfold Row at hr
      rw [hr] at hc
      simp only [Option.some.injEq, Obj.cells.injEq] at hc
      exact ht hc.2.1
    have hc' : Row w g 3 cur.toList := by unfold Row; simpa using hc
    have := hc'.other ⟨B, i, none⟩ hne u
    unfold Row at this
    simpa using this

set_option maxHeartbeats 2000000 in
theorem join_any (a b : Int) (x y : Nm) (w : World) (hx : Nums w x) (hy : Nums w y) (hp : 0 < x.z.length) (hb : x.z.length + y.z.length ≤ 1000) (ha0 : 0 ≤ a) (hb0 : 0 ≤ b) (ha : a ≤ 1000000000) (hb' : b ≤ 1000000000) :
    Calls Try.prog 44 #[.agg #[.int .i64 a, x.v], .agg #[.int .i64 b, y.v]] w fun e w' => (∃ g c, e = .returned (.agg #[.int .i64 (a + b), .slice (some ⟨g, 0, none⟩) (x.z.length + y.z.length) c]) ∧ OwnN w w' (.slice (some ⟨g, 0, none⟩) (x.z.length + y.z.length) c) (x.z ++ y.z)) := by
  have HX : Hid (Nums w x) := hx
  have HY : Hid (Nums w y) := hy
  have HP : Hid (0 < x.z.length) := hp
  have HB : Hid (x.z.length + y.z.length ≤ 1000) := hb
  clear hx hy hp hb
  obtain ⟨xa, xc, xz⟩ := x
  obtain ⟨ya, yc, yz⟩ := y
  simp only [Nm.v] at *
  have hcat : Hid (∀ (W : World) (B : Nat), Ext w W → (W.cell? ⟨B, 0, none⟩ = some (.slice xa xz.length xc) ∧ W.cell? ⟨B, 1, none⟩ = some (.slice ya yz.length yc)) → Calls Try.prog 46 #[.slice (some ⟨B, 0, none⟩) 2 2] W fun e w' => (∃ g c, e = .returned (.slice (some ⟨g, 0, none⟩) (xz.length + yz.length) c) ∧ OwnN w w' (.slice (some ⟨g, 0, none⟩) (xz.length + yz.length) c) (xz ++ yz) ∧ Ext W w')) := fun W B hW hc =>
    (concat_any ⟨xa, xc, xz⟩ ⟨ya, yc, yz⟩ B W (HX.out.ext hW) (HY.out.ext hW) hc.1 hc.2 HP.out HB.out).mono (by
      rintro e w' ⟨v, rfl, hv⟩
      obtain ⟨g, c, rfl⟩ := hv.some (by have := HP.out; simp; omega)
      rw [List.length_append] at hv
      exact ⟨g, c, by rw [List.length_append], hv.base hW, hv.1⟩)
  clear HX HY HP HB
  generalize xz.length + yz.length = L at *
  generalize xz.length = n at *
  generalize yz.length = m at *
  have hw : IntKind.i64.wrap (a + b) = a + b := by rw [IntKind.wrap_i64]; omega
  go_enter Try.func44, Try.ntmps44
  go_wp2
  obtain ⟨wb, hwb⟩ : ∃ wb, wb = (w.alloc (.cells #[.int .i64 a, .slice xa n xc] 66)).alloc (.cells #[.int .i64 b, .slice ya m yc] 66) := ⟨_, rfl⟩
  have WB : Hid (wb.heap.size = w.heap.size + 1 + 1) := by show _ = _; rw [hwb]; simp
  have EB : Hid (Ext w wb) := by rw [hwb]; exact ((Ext.refl w).alloc _).alloc _
  obtain ⟨W0, hW0⟩ : ∃ W0, W0 = wb.alloc (.cells #[.int .i64 0, .slice none 0 0] 66) := ⟨_, rfl⟩
  have E0 : Hid (Ext wb W0) := by rw [hW0]; exact (Ext.refl wb).alloc _
  have R0 : Hid (Row W0 (w.heap.size + 1 + 1) 66 [.int .i64 0, .slice none 0 0]) := by
    have := heap_alloc_new wb (.cells #[.int .i64 0, .slice none 0 0] 66)
    rw [WB.out, ← hW0] at this
    exact this
  obtain ⟨ι, _, fm, hg, hgo⟩ := ext_fam wb
  have b1 : Row wb w.heap.size 66 [.int .i64 a, .slice xa n xc] := by
    show wb.heap[w.heap.size]? = _
    rw [hwb, heap_alloc_old _ _ (by simp)]
    exact heap_alloc_new w _
  have b2 : Row wb (w.heap.size + 1) 66 [.int .i64 b, .slice ya m yc] := by
    have := heap_alloc_new (w.alloc (.cells #[.int .i64 a, .slice xa n xc] 66)) (.cells #[.int .i64 b, .slice ya m yc] 66)
    rw [← hwb] at this
    show wb.heap[w.heap.size + 1]? = _
    simpa using this
  have c1 : ∀ i, (fm i).cell? ⟨w.heap.size, 0, none⟩ = some (.int .i64 a) := fun i => (hg i).cell (b1.cell 0 (by simp))
  have c2 : ∀ i, (fm i).cell? ⟨w.heap.size, 1, none⟩ = some (.slice xa n xc) := fun i => (hg i).cell (b1.cell 1 (by simp))
  have c3 : ∀ i, (fm i).cell? ⟨w.heap.size + 1, 0, none⟩ = some (.int .i64 b) := fun i => (hg i).cell (b2.cell 0 (by simp))
  have c4 : ∀ i, (fm i).cell? ⟨w.heap.size + 1, 1, none⟩ = some (.slice ya m yc) := fun i => (hg i).cell (b2.cell 1 (by simp))
  have HGO : Hid (∀ W, Ext wb W → ∃ i, W = fm i) := hgo
  rw [← hwb, ← hW0]
  clear hwb hW0 hg hgo b1 b2
  refine wp_region_mix (fun W => ∃ i, W = fm i) 13 (by rfl) (by kernel_rfl) ?_
  refine wpMix_take (v := .pointer (some ⟨w.heap.size, 0, none⟩)) 0 (by rfl) (by kernel_rfl) ⟨by rfl, ?_⟩ ?_
  · rintro _ ⟨i, rfl⟩
    go_simp
  refine wpMix_take (v := .int .i64 a) 1 (by rfl) (by kernel_rfl) ⟨by rfl, ?_⟩ ?_
  · rintro _ ⟨i, rfl⟩
    go_simp
  refine wpMix_take (v := .pointer (some ⟨w.heap.size + 1, 0, none⟩)) 2 (by rfl) (by kernel_rfl) ⟨by rfl, ?_⟩ ?_
  · rintro _ ⟨i, rfl⟩
    go_simp
  refine wpMix_take (v := .int .i64 b) 3 (by rfl) (by kernel_rfl) ⟨by rfl, ?_⟩ ?_
  · rintro _ ⟨i, rfl⟩
    go_simp
  refine wpMix_take (v := .int .i64 (a + b)) 4 (by rfl) (by kernel_rfl) ⟨by rfl, ?_⟩ ?_
  · rintro _ ⟨i, rfl⟩
    go_simp
  refine wpMix_take (v := .pointer (some ⟨w.heap.size, 1, none⟩)) 5 (by rfl) (by kernel_rfl) ⟨by rfl, ?_⟩ ?_
  · rintro _ ⟨i, rfl⟩
    go_simp
  refine wpMix_take (v := .slice xa n xc) 6 (by rfl) (by kernel_rfl) ⟨by rfl, ?_⟩ ?_
  · rintro _ ⟨i, rfl⟩
    go_simp
  refine wpMix_take (v := .pointer (some ⟨w.heap.size + 1, 1, none⟩)) 7 (by rfl) (by kernel_rfl) ⟨by rfl, ?_⟩ ?_
  · rintro _ ⟨i, rfl⟩
    go_simp
  refine wpMix_take (v := .slice ya m yc) 8 (by rfl) (by kernel_rfl) ⟨by rfl, ?_⟩ ?_
  · rintro _ ⟨i, rfl⟩
    go_simp
  have E1 : Hid (Ext wb W0.drew) := E0.out.trans (ext_drew W0)
  have R1 : Hid (Row W0.drew (w.heap.size + 1 + 1) 66 [.int .i64 0, .slice none 0 0]) := R0.out
  clear E0 R0
  generalize W0.drew = W1 at *
  refine wpMix_only 9 (by kernel_rfl) (HGO.out _ E1.out) ?_
  refine mOp_value (v := .slice (some ⟨W1.heap.size, 0, none⟩) 2 2) (w' := W1.alloc (.cells #[.slice xa n xc, .slice ya m yc] 27)) (by rfl) (by rfl) ?_ ?_
  · go_simp
  have E2 : Hid (Ext W1 (W1.alloc (.cells #[.slice xa n xc, .slice ya m yc] 27))) := (Ext.refl W1).alloc _
  have K2 : Hid ((W1.alloc (.cells #[.slice xa n xc, .slice ya m yc] 27)).cell? ⟨W1.heap.size, 0, none⟩ = some (.slice xa n xc) ∧ (W1.alloc (.cells #[.slice xa n xc, .slice ya m yc] 27)).cell? ⟨W1.heap.size, 1, none⟩ = some (.slice ya m yc)) := by
    have h := heap_alloc_new W1 (.cells #[.slice xa n xc, .slice ya m yc] 27)
    exact ⟨cell_of_row _ _ 0 _ 27 (0, 0) h, cell_of_row _ _ 1 _ 27 (0, 0) h⟩
  generalize (W1.alloc (.cells #[.slice xa n xc, .slice ya m yc] 27)) = W2 at *
  refine wpMix_only 10 (by kernel_rfl) (HGO.out _ (E1.out.trans E2.out)) ?_
  refine mOp_call (f := 46) (args := #[.slice (some ⟨W1.heap.size, 0, none⟩) 2 2]) (w' := W2) (by rfl) (by rfl) ?_ ?_
  · go_simp
  refine (hcat.out _ _ ((EB.out.trans E1.out).trans E2.out) K2.out).mono ?_
  rintro e w1 ⟨g, c, rfl, hv, hE⟩
  refine ⟨_, rfl, ?_⟩
  have HV : Hid (OwnN w w1 (.slice (some ⟨g, 0, none⟩) L c) (xz ++ yz)) := hv
  have R3 : Row w1 (w.heap.size + 1 + 1) 66 [.int .i64 0, .slice none 0 0] := (R1.out.ext E2.out).ext hE
  have E3 : Hid (Ext wb w1) := (E1.out.trans E2.out).trans hE
  clear hv hE
  refine wpMix_only 11 (by kernel_rfl) (HGO.out _ E3.out) ?_
  refine mOp_value (v := .agg #[.int .i64 (a + b), .slice (some ⟨g, 0, none⟩) L c]) (w' := w1) (by rfl) (by rfl) ?_ ?_
  · go_simp
  have k1 := R3.cell 0 (by simp)
  have k2 := R3.cell 1 (by simp)
  have k3 := R3.fr
  simp only [List.getElem_cons_zero, List.getElem_cons_succ] at k1 k2
  have HB : Hid (wb.heap.size ≤ w.heap.size + 1 + 1) := by show _ ≤ _; rw [WB.out]; exact Nat.le_refl _
  have HB2 : Hid (w.heap.size ≤ w.heap.size + 1 + 1) := by show _ ≤ _; omega
  have FIN : Hid (OwnN w ((w1.setCell ⟨w.heap.size + 1 + 1, 0, none⟩ (.int .i64 (a + b))).setCell ⟨w.heap.size + 1 + 1, 1, none⟩ (.slice (some ⟨g, 0, none⟩) L c)) (.slice (some ⟨g, 0, none⟩) L c) (xz ++ yz)) :=
    (HV.out.other R3 (by decide) HB2.out).other (R3.set 0 _) (by decide) HB2.out
  have Q1 : ((w1.setCell ⟨w.heap.size + 1 + 1, 0, none⟩ (.int .i64 (a + b))).setCell ⟨w.heap.size + 1 + 1, 1, none⟩ (.slice (some ⟨g, 0, none⟩) L c)).cell? ⟨w.heap.size + 1 + 1, 0, none⟩ = some (.int .i64 (a + b)) := ((R3.set 0 (.int .i64 (a + b))).set 1 (.slice (some ⟨g, 0, none⟩) L c)).cell 0 (by simp)
  have Q2 : ((w1.setCell ⟨w.heap.size + 1 + 1, 0, none⟩ (.int .i64 (a + b))).setCell ⟨w.heap.size + 1 + 1, 1, none⟩ (.slice (some ⟨g, 0, none⟩) L c)).cell? ⟨w.heap.size + 1 + 1, 1, none⟩ = some (.slice (some ⟨g, 0, none⟩) L c) := ((R3.set 0 (.int .i64 (a + b))).set 1 (.slice (some ⟨g, 0, none⟩) L c)).cell 1 (by simp)
  have E4 : Hid (Ext wb ((w1.setCell ⟨w.heap.size + 1 + 1, 0, none⟩ (.int .i64 (a + b))).setCell ⟨w.heap.size + 1 + 1, 1, none⟩ (.slice (some ⟨g, 0, none⟩) L c))) := (E3.out.setCell HB.out _).setCell HB.out _
  refine wpMix_last 12 (by kernel_rfl) (by kernel_rfl) (by rfl) (by rfl) (HGO.out _ E3.out) (store46 _ _ (.tmp 4) (.tmp 16) (by rfl) w1 (w.heap.size + 1 + 1) 0 (by simp [Act.eval, Act.put]) (a + b) (some ⟨g, 0, none⟩) L c (by simp [Act.eval, Act.put]) _ _ k1 k2 k3) (HGO.out _ E4.out) ?_
  generalize ((w1.setCell ⟨w.heap.size + 1 + 1, 0, none⟩ (.int .i64 (a + b))).setCell ⟨w.heap.size + 1 + 1, 0 + 1, none⟩ (.slice (some ⟨g, 0, none⟩) L c)) = W4 at FIN Q1 Q2 E4 ⊢
  clear c1 c2 c3 c4 k1 k2 k3 R3 HGO hcat
  go_wp2
  refine bodyPost_ret (by simp [results, Try.results44, go_sem, Q1, Q2]; rfl) rfl ?_
  exact ⟨g, c, rfl, FIN.out⟩

end Go.Proofs.Ytakggfogoobdnaa
