/-
  field.At.
-/
import Derived.Test.YtllkfadghdnhhabSv
import Derived.Test.YtllkfadghdnhhabFac
namespace Go.Proofs.Ytllkfadghdnhhab
open Go.RowKit Go.Shelf

theorem At_good (zs : List (Fin 16)) (hl : zs.length ≤ 64) (x : Nat) (hx : x < 16) (y : Nm) (hy : y.z = (fl zs).map (fun (n : Nat) => (Nat.cast n : Int))) (w : World) (hw : Nums w y) :
    Calls Try.prog 5 #[y.v, .int .i64 x] w fun e w' => e = .returned (.tuple #[.int .i64 (ev x (fl zs) : Nat), .int .i64 0]) ∧ Ext w w' := by
  have k1 : Calls Try.prog 7 #[.slice (some ⟨w.heap.size, 0, none⟩) 1 1] (w.alloc (.cells #[.int .i64 x] 3)) fun e w' => e = .returned (.int .i64 0) ∧ w' = w.alloc (.cells #[.int .i64 x] 3) := check_one x hx w
  have E0 : Ext w (w.alloc (.cells #[.int .i64 x] 3)) := (Ext.refl w).alloc _
  have k2 := check_any y _ (hw.ext E0)
  rw [fe_good (by
      rw [hy]
      intro z hz
      obtain ⟨n, hn, rfl⟩ := List.mem_map.1 hz
      obtain ⟨c, _, rfl⟩ := List.mem_map.1 hn
      have := c.isLt
      omega)] at k2
  have k3 := SumAt_fin zs (by omega) x hx y hy _ (hw.ext E0)
  have E : Hid (Ext w (w.alloc (.cells #[.int .i64 x] 3))) := E0
  have hlen : y.z.length = zs.length := by rw [hy]; simp
  have hl2 : ¬ (64 : Int) < (y.z.length : Int) := by omega
  clear E0 hw hy hlen hl
  simp only [Nm.v] at *
  generalize y.z.length = len at *
  generalize ev x (fl zs) = V at *
  go_enter Try.func5, Try.ntmps5
  go_wp2_with fail
  refine k1.mono ?_
  rintro e w' ⟨rfl, rfl⟩
  clear k1
  generalize w.alloc (.cells #[.int .i64 x] 3) = w2 at *
  go_wp2_with fail
  refine k2.mono ?_
  rintro e w' ⟨rfl, rfl⟩
  clear k2
  go_wp2_with fail
  refine k3.mono ?_
  rintro e w' ⟨rfl, E3⟩
  clear k3
  have E4 : Hid (Ext w w') := E.out.trans E3
  clear E3
  go_wp2
  go_ret2
  exact ⟨rfl, E4.out⟩

/-- A number that is asked alone. -/
theorem At_x (y : Nm) (x : Int) (h : fe [x] ≠ 0) (w : World) : Calls Try.prog 5 #[y.v, .int .i64 x] w fun e w' => e = .returned (.tuple #[.int .i64 0, .int .i64 (fe [x])]) ∧ Ext w w' := by
  have k1 : Calls Try.prog 7 #[.slice (some ⟨w.heap.size, 0, none⟩) 1 1] (w.alloc (.cells #[.int .i64 x] 3)) fun e w' => e = .returned (.int .i64 (fe [x])) ∧ w' = w.alloc (.cells #[.int .i64 x] 3) := check_row [x] (by simp [maxLen]) w
  have E : Hid (Ext w (w.alloc (.cells #[.int .i64 x] 3))) := (Ext.refl w).alloc _
  have hz : (fe [x] != 0) = true := bne_iff_ne.2 h
  clear h
  simp only [Nm.v]
  generalize y.z.length = len at *
  generalize fe [x] = X at *
  go_enter Try.func5, Try.ntmps5
  go_wp2_with fail
  refine k1.mono ?_
  rintro e w' ⟨rfl, rfl⟩
  clear k1
  go_wp2
  go_ret2
  exact ⟨rfl, E.out⟩

theorem At_l (y : Nm) (x : Nat) (hx : x < 16) (h : fe y.z ≠ 0) (w : World) (hy : Nums w y) : Calls Try.prog 5 #[y.v, .int .i64 x] w fun e w' => e = .returned (.tuple #[.int .i64 0, .int .i64 (fe y.z)]) ∧ Ext w w' := by
  have k1 := check_one x hx w
  have E0 : Ext w (w.alloc (.cells #[.int .i64 x] 3)) := (Ext.refl w).alloc _
  have k2 := check_any y _ (hy.ext E0)
  have E : Hid (Ext w (w.alloc (.cells #[.int .i64 x] 3))) := E0
  have hz : (fe y.z != 0) = true := bne_iff_ne.2 h
  clear h
  clear E0 hy
  simp only [Nm.v] at *
  generalize y.z.length = len at *
  generalize fe y.z = X at *
  go_enter Try.func5, Try.ntmps5
  go_wp2_with fail
  refine k1.mono ?_
  rintro e w' ⟨rfl, rfl⟩
  clear k1
  generalize w.alloc (.cells #[.int .i64 x] 3) = w2 at *
  go_wp2_with fail
  refine k2.mono ?_
  rintro e w' ⟨rfl, rfl⟩
  clear k2
  go_wp2
  go_ret2
  exact ⟨rfl, E.out⟩

theorem At_large (y : Nm) (x : Nat) (hx : x < 16) (h : fe y.z = 0) (hl : 64 < y.z.length) (w : World) (hy : Nums w y) : Calls Try.prog 5 #[y.v, .int .i64 x] w fun e w' => e = .returned (.tuple #[.int .i64 0, .int .i64 1]) ∧ Ext w w' := by
  have k1 := check_one x hx w
  have E0 : Ext w (w.alloc (.cells #[.int .i64 x] 3)) := (Ext.refl w).alloc _
  have k2 := check_any y _ (hy.ext E0)
  have E : Hid (Ext w (w.alloc (.cells #[.int .i64 x] 3))) := E0
  rw [h] at k2
  clear h
  have hl2 : (64 : Int) < (y.z.length : Int) := by omega
  clear E0 hy
  simp only [Nm.v] at *
  generalize y.z.length = len at *
  go_enter Try.func5, Try.ntmps5
  go_wp2_with fail
  refine k1.mono ?_
  rintro e w' ⟨rfl, rfl⟩
  clear k1
  generalize w.alloc (.cells #[.int .i64 x] 3) = w2 at *
  go_wp2_with fail
  refine k2.mono ?_
  rintro e w' ⟨rfl, rfl⟩
  clear k2
  go_wp2
  go_ret2
  exact ⟨rfl, E.out⟩

end Go.Proofs.Ytllkfadghdnhhab
