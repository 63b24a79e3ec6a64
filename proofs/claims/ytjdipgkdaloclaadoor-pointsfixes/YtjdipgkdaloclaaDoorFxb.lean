/-
  points.Fix where the counts are wrong or a number is none.
-/
import Derived.Test.YtjdipgkdaloclaaDoorRs
import Derived.RangeFuncBox
import Derived.Test.YtjdipgkdaloclaaDoorChk
namespace Go.Proofs.YtjdipgkdaloclaaDoor
open Go.RowKit
set_option linter.unusedVariables false

theorem cell_two (w : World) (o1 o2 : Obj) (v u : Value) : ((((w.alloc o1).alloc o2).alloc (.cells #[v] 22)).alloc (.cells #[u] 23)).cell? ⟨w.heap.size + 1 + 1, 0, none⟩ = some v ∧ ((((w.alloc o1).alloc o2).alloc (.cells #[v] 22)).alloc (.cells #[u] 23)).cell? ⟨w.heap.size + 1 + 1 + 1, 0, none⟩ = some u := by
  have b1 := (Boxed.new ((w.alloc o1).alloc o2) 22 v).alloc (.cells #[u] 23)
  have b2 := Boxed.new (((w.alloc o1).alloc o2).alloc (.cells #[v] 22)) 23 u
  have e1 : ((w.alloc o1).alloc o2).heap.size = w.heap.size + 1 + 1 := by simp
  have e2 : (((w.alloc o1).alloc o2).alloc (.cells #[v] 22)).heap.size = w.heap.size + 1 + 1 + 1 := by simp
  rw [e1] at b1
  rw [e2] at b2
  exact ⟨b1.cell, b2.cell⟩

set_option maxRecDepth 100000 in
theorem Fix_counts (k : Int) (y : Nm) (X : Int) (hX : pc k y.z.length = X) (h0 : X ≠ 0) (w : World) : Calls Tryd.prog 5 #[.int .i64 k, y.v] w fun e w' => e = .returned (.tuple #[.slice none 0 0, .int .i64 X]) ∧ Ext w w' := by
  have c1 : ∀ W, Calls Tryd.prog 12 #[.int .i64 k, .int .i64 y.z.length] W fun e w' => e = .returned (.int .i64 X) ∧ w' = W := fun W => by
    have := counts_any k y.z.length W
    rw [hX] at this
    exact this
  have E : Hid (∀ o1 o2 o3 o4, Ext w ((((w.alloc o1).alloc o2).alloc o3).alloc o4)) := fun o1 o2 o3 o4 => ((((Ext.refl w).alloc o1).alloc o2).alloc o3).alloc o4
  have hz : (X != 0) = true := bne_iff_ne.2 h0
  have c2 : Hid (∀ W, Calls Tryd.prog 12 #[.int .i64 k, .int .i64 y.z.length] W fun e w' => e = .returned (.int .i64 X) ∧ w' = W) := c1
  clear h0 hX c1
  simp only [Nm.v] at *
  generalize y.z.length = n at *
  go_enter Tryd.func5, Tryd.ntmps5
  go_wp2_with fail
  refine (c2.out _).mono ?_
  rintro e w' ⟨rfl, rfl⟩
  clear c2
  go_wp2
  refine bodyPost_ret (res5 _ _ _ _ _ _ rfl rfl (cell_two w _ _ _ _).1 (cell_two w _ _ _ _).2) rfl ?_
  exact ⟨rfl, E.out _ _ _ _⟩

set_option maxRecDepth 100000 in
theorem Fix_range (k : Int) (y : Nm) (hX : pc k y.z.length = 0) (h0 : fe y.z ≠ 0) (w : World) (hy : Nums w y) : Calls Tryd.prog 5 #[.int .i64 k, y.v] w fun e w' => e = .returned (.tuple #[.slice none 0 0, .int .i64 4]) ∧ Ext w w' := by
  have c2 : Hid (∀ W, Calls Tryd.prog 12 #[.int .i64 k, .int .i64 y.z.length] W fun e w' => e = .returned (.int .i64 0) ∧ w' = W) := fun W => by
    have := counts_any k y.z.length W
    rw [hX] at this
    exact this
  have hf : fe y.z = 4 := by rcases fe_or y.z with h | h; exact absurd h h0; exact h
  have E : Hid (∀ o1 o2 o3 o4, Ext w ((((w.alloc o1).alloc o2).alloc o3).alloc o4)) := fun o1 o2 o3 o4 => ((((Ext.refl w).alloc o1).alloc o2).alloc o3).alloc o4
  have c3 : Hid (∀ W, Ext w W → Calls Tryd.prog 13 #[y.v] W fun e w' => e = .returned (.int .i64 4) ∧ w' = W) := fun W E => by
    have := check_any y W (hy.ext E)
    rw [hf] at this
    exact this
  clear hX hf h0 hy
  simp only [Nm.v] at *
  generalize y.z.length = n at *
  go_enter Tryd.func5, Tryd.ntmps5
  go_wp2_with fail
  refine (c2.out _).mono ?_
  rintro e w' ⟨rfl, rfl⟩
  clear c2
  go_wp2_with fail
  refine (c3.out _ (E.out _ _ _ _)).mono ?_
  rintro e w' ⟨rfl, rfl⟩
  clear c3
  go_wp2
  refine bodyPost_ret (res5 _ _ _ _ _ _ rfl rfl (cell_two w _ _ _ _).1 (cell_two w _ _ _ _).2) rfl ?_
  exact ⟨rfl, E.out _ _ _ _⟩

end Go.Proofs.YtjdipgkdaloclaaDoor
