/-
  alpha.compare: which of two plans comes first.
-/
import Derived.Test.YtakggfogoobdnaaCmp
namespace Go.Proofs.Ytakggfogoobdnaa
open Go.RowKit

/-- A plan is better than another one. -/
theorem orI_neg (c d : Nat) (a b : List Nat) : orI (cmpI c d) (cmpL a b) < 0 ↔ (c < d ∨ (c = d ∧ ll a b = true)) := by
  unfold orI
  rcases Nat.lt_trichotomy c d with h | h | h
  · rw [cmpI_lt (by omega), if_neg (by omega)]
    simp [h]
  · rw [cmpI_eq (by omega), if_pos rfl, cmpL_neg]
    simp [h]
  · rw [cmpI_gt (by omega), if_neg (by omega)]
    constructor
    · intro h; omega
    · rintro (h' | ⟨h', _⟩) <;> omega

set_option maxHeartbeats 2000000 in
theorem compareP_any (c d : Int) (x y : Nm) (a b : List Nat) (w : World) (hx : Nums w x) (hy : Nums w y) (hxa : x.z = lz a) (hyb : y.z = lz b) (hl : a.length = b.length) :
    Calls Try.prog 36 #[.agg #[.int .i64 c, x.v], .agg #[.int .i64 d, y.v]] w fun e w' => e = .returned (.int .i64 (orI (cmpI c d) (cmpL a b))) ∧ Ext w w' := by
  have HL : Hid (∀ W, Ext w W → Calls Try.prog 48 #[x.v, y.v] W fun e w' => e = .returned (.int .i64 (cmpL a b)) ∧ w' = W) := fun W e => compareL_any x y a b W (hx.ext e) (hy.ext e) hxa hyb hl
  have HC : Hid (∀ W, Calls Try.prog 43 #[.int .i64 c, .int .i64 d] W fun e w' => e = .returned (.int .i64 (cmpI c d)) ∧ w' = W) := fun W => compare_any c d W
  have HO : Hid (∀ W B, (W.cell? ⟨B, 0, none⟩ = some (.int .i64 (cmpI c d)) ∧ W.cell? ⟨B, 1, none⟩ = some (.int .i64 (cmpL a b))) → Calls Try.prog 47 #[.slice (some ⟨B, 0, none⟩) 2 2] W fun e w' => e = .returned (.int .i64 (orI (cmpI c d) (cmpL a b))) ∧ w' = W) := fun W B h => or_any _ _ B W h.1 h.2
  obtain ⟨xa, xc, xz⟩ := x
  obtain ⟨ya, yc, yz⟩ := y
  simp only [Nm.v] at *
  clear hx hy hxa hyb hl
  generalize xz.length = n at *
  generalize yz.length = m at *
  generalize orI (cmpI c d) (cmpL a b) = r at *
  generalize cmpI c d = r1 at *
  generalize cmpL a b = r2 at *
  go_enter Try.func36, Try.ntmps36
  go_wp2
  obtain ⟨wb, hwb⟩ : ∃ wb, wb = (w.alloc (.cells #[.int .i64 c, .slice xa n xc] 47)).alloc (.cells #[.int .i64 d, .slice ya m yc] 47) := ⟨_, rfl⟩
  have EB : Hid (Ext w wb) := by rw [hwb]; exact ((Ext.refl w).alloc _).alloc _
  have b1 : Row wb w.heap.size 47 [.int .i64 c, .slice xa n xc] := by
    show wb.heap[w.heap.size]? = _
    rw [hwb, heap_alloc_old _ _ (by simp)]
    exact heap_alloc_new w _
  have b2 : Row wb (w.heap.size + 1) 47 [.int .i64 d, .slice ya m yc] := by
    have := heap_alloc_new (w.alloc (.cells #[.int .i64 c, .slice xa n xc] 47)) (.cells #[.int .i64 d, .slice ya m yc] 47)
    rw [← hwb] at this
    show wb.heap[w.heap.size + 1]? = _
    simpa using this
  have B1 : Hid (Row wb w.heap.size 47 [.int .i64 c, .slice xa n xc]) := b1
  have B2 : Hid (Row wb (w.heap.size + 1) 47 [.int .i64 d, .slice ya m yc]) := b2
  rw [← hwb]
  clear hwb b1 b2
  refine wp_region_mix (Ext wb) 13 (by rfl) (by kernel_rfl) ?_
  refine wpMix_take (v := .pointer (some ⟨w.heap.size, 0, none⟩)) 0 (by rfl) (by kernel_rfl) ⟨by rfl, ?_⟩ ?_
  · intro W hW
    go_simp
  refine wpMix_take (v := .int .i64 c) 1 (by rfl) (by kernel_rfl) ⟨by rfl, ?_⟩ ?_
  · intro W hW
    have c1 := hW.cell (B1.out.cell 0 (by simp))
    simp only [List.getElem_cons_zero] at c1
    go_simp
  refine wpMix_take (v := .pointer (some ⟨w.heap.size + 1, 0, none⟩)) 2 (by rfl) (by kernel_rfl) ⟨by rfl, ?_⟩ ?_
  · intro W hW
    go_simp
  refine wpMix_take (v := .int .i64 d) 3 (by rfl) (by kernel_rfl) ⟨by rfl, ?_⟩ ?_
  · intro W hW
    have c1 := hW.cell (B2.out.cell 0 (by simp))
    simp only [List.getElem_cons_zero] at c1
    go_simp
  refine wpMix_take (v := .pointer (some ⟨w.heap.size, 1, none⟩)) 5 (by rfl) (by kernel_rfl) ⟨by rfl, ?_⟩ ?_
  · intro W hW
    go_simp
  refine wpMix_take (v := .slice xa n xc) 6 (by rfl) (by kernel_rfl) ⟨by rfl, ?_⟩ ?_
  · intro W hW
    have c1 := hW.cell (B1.out.cell 1 (by simp))
    simp only [List.getElem_cons_zero, List.getElem_cons_succ] at c1
    go_simp
  refine wpMix_take (v := .pointer (some ⟨w.heap.size + 1, 1, none⟩)) 7 (by rfl) (by kernel_rfl) ⟨by rfl, ?_⟩ ?_
  · intro W hW
    go_simp
  refine wpMix_take (v := .slice ya m yc) 8 (by rfl) (by kernel_rfl) ⟨by rfl, ?_⟩ ?_
  · intro W hW
    have c1 := hW.cell (B2.out.cell 1 (by simp))
    simp only [List.getElem_cons_zero, List.getElem_cons_succ] at c1
    go_simp
  have E1 : Hid (Ext wb wb.drew) := ext_drew wb
  generalize wb.drew = W1 at *
  refine wpMix_only 4 (by kernel_rfl) E1.out ?_
  refine mOp_call (f := 43) (args := #[.int .i64 c, .int .i64 d]) (w' := W1) (by rfl) (by rfl) ?_ ?_
  · go_simp
  refine (HC.out W1).mono ?_
  rintro e w1 ⟨rfl, rfl⟩
  refine ⟨_, rfl, ?_⟩
  refine wpMix_only 9 (by kernel_rfl) E1.out ?_
  refine mOp_call (f := 48) (args := #[.slice xa n xc, .slice ya m yc]) (w' := w1) (by rfl) (by rfl) ?_ ?_
  · go_simp
  refine (HL.out w1 (EB.out.trans E1.out)).mono ?_
  rintro e w2 ⟨rfl, rfl⟩
  refine ⟨_, rfl, ?_⟩
  refine wpMix_only 10 (by kernel_rfl) E1.out ?_
  refine mOp_value (v := .slice (some ⟨w2.heap.size, 0, none⟩) 2 2) (w' := w2.alloc (.cells #[.int .i64 r1, .int .i64 r2] 3)) (by rfl) (by rfl) ?_ ?_
  · go_simp
  have E2 : Hid (Ext w2 (w2.alloc (.cells #[.int .i64 r1, .int .i64 r2] 3))) := (Ext.refl w2).alloc _
  have K2 : Hid ((w2.alloc (.cells #[.int .i64 r1, .int .i64 r2] 3)).cell? ⟨w2.heap.size, 0, none⟩ = some (.int .i64 r1) ∧ (w2.alloc (.cells #[.int .i64 r1, .int .i64 r2] 3)).cell? ⟨w2.heap.size, 1, none⟩ = some (.int .i64 r2)) := by
    have h := heap_alloc_new w2 (.cells #[.int .i64 r1, .int .i64 r2] 3)
    exact ⟨cell_of_row _ _ 0 _ 3 (0, 0) h, cell_of_row _ _ 1 _ 3 (0, 0) h⟩
  generalize (w2.alloc (.cells #[.int .i64 r1, .int .i64 r2] 3)) = W3 at *
  refine wpMix_only 11 (by kernel_rfl) (E1.out.trans E2.out) ?_
  refine mOp_call (f := 47) (args := #[.slice (some ⟨w2.heap.size, 0, none⟩) 2 2]) (w' := W3) (by rfl) (by rfl) ?_ ?_
  · go_simp
  refine (HO.out W3 _ K2.out).mono ?_
  rintro e w4 ⟨rfl, rfl⟩
  refine ⟨_, rfl, ?_⟩
  refine wpMix_lastv (v := .int .i64 r) (w' := w4) 12 (by kernel_rfl) (by kernel_rfl) (by rfl) (by rfl) (E1.out.trans E2.out) (by go_simp) (E1.out.trans E2.out) ?_
  have FIN : Hid (Ext w w4) := (EB.out.trans E1.out).trans E2.out
  clear HL HC HO B1 B2 K2 EB E1 E2
  simp only [Act.put, List.setIfInBounds_toArray, List.set_cons_zero, List.set_cons_succ]
  go_wp2
  go_ret
  exact ⟨rfl, FIN.out⟩

end Go.Proofs.Ytakggfogoobdnaa
