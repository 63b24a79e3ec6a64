/-
  What the laws about turned bits use besides: a number of the drawn byte, and a made list of places.
-/
import Derived.Test.YtnkhlohoaoiefaaDoorTrn
import Derived.Test.YtnkhlohoaoiefaaDoorEq
namespace Go.Proofs.YtnkhlohoaoiefaaDoor
open Go.RowKit

theorem u8_of {x : Int} (h : (Lit.int .u8 x).wf = true) : 0 ≤ x ∧ x < 256 := by
  have b : IntKind.u8.min = 0 ∧ IntKind.u8.max = 255 := by decide
  simp only [Lit.wf, b, Bool.and_eq_true, decide_eq_true_eq] at h
  omega
theorem rem_at (k n : Nat) : (k : Int).tmod (n : Int) = ((k % n : Nat) : Int) := (Int.ofNat_tmod k n).symm
theorem one_cell (w : World) (i : Int) : (w.alloc (.cells #[.int .i64 i] 3)).cell? ⟨w.heap.size, 0, none⟩ = some (.int .i64 i) := by
  rw [cell_of_row _ _ _ _ 3 (0, 0) (heap_alloc_new w _)]
  rfl
theorem two_cell (w : World) (i j : Int) : (w.alloc (.cells #[.int .i64 i, .int .i64 j] 3)).cell? ⟨w.heap.size, 0, none⟩ = some (.int .i64 i) ∧ (w.alloc (.cells #[.int .i64 i, .int .i64 j] 3)).cell? ⟨w.heap.size, 1, none⟩ = some (.int .i64 j) := by
  rw [cell_of_row _ _ _ _ 3 (0, 0) (heap_alloc_new w _), cell_of_row _ _ _ _ 3 (0, 0) (heap_alloc_new w _)]
  exact ⟨rfl, rfl⟩
/-- One place turned. -/
theorem turned_one (x : Wd) (h0 : 0 < x.l.length) (hl : x.l.length ≤ 1000) (i : Nat) (hi : i < x.l.length) (w : World) (hx : Bits w x) :
    Calls Tryd.prog 10 #[x.v, .slice (some ⟨w.heap.size, 0, none⟩) 1 1] (w.alloc (.cells #[.int .i64 (i : Nat)] 3)) fun e w' => ∃ v, e = .returned v ∧ OwnB w w' v (tn x.l i) := by
  refine (turned_any x h0 hl (fun _ => i) 1 w.heap.size (by omega) (fun _ _ => hi) (w.alloc (.cells #[.int .i64 (i : Nat)] 3)) (hx.ext ((Ext.refl w).alloc _)) (fun k hk => ?_)).mono ?_
  · obtain rfl : k = 0 := by omega
    exact one_cell w i
  · rintro e w' ⟨v, he, hv⟩
    exact ⟨v, he, OwnB.base ((Ext.refl w).alloc _) hv⟩
/-- Two places turned, one behind the other. -/
theorem turned_two (x : Wd) (h0 : 0 < x.l.length) (hl : x.l.length ≤ 1000) (i j : Nat) (hi : i < x.l.length) (hj : j < x.l.length) (w : World) (hx : Bits w x) :
    Calls Tryd.prog 10 #[x.v, .slice (some ⟨w.heap.size, 0, none⟩) 2 2] (w.alloc (.cells #[.int .i64 (i : Nat), .int .i64 (j : Nat)] 3)) fun e w' => ∃ v, e = .returned v ∧ OwnB w w' v (tn (tn x.l i) j) := by
  refine (turned_any x h0 hl (fun k => if k = 0 then i else j) 2 w.heap.size (by omega) (fun k hk => by split <;> assumption) (w.alloc (.cells #[.int .i64 (i : Nat), .int .i64 (j : Nat)] 3)) (hx.ext ((Ext.refl w).alloc _)) (fun k hk => ?_)).mono ?_
  · obtain rfl | rfl : k = 0 ∨ k = 1 := by omega
    · exact (two_cell w i j).1
    · exact (two_cell w i j).2
  · rintro e w' ⟨v, he, hv⟩
    exact ⟨v, he, OwnB.base ((Ext.refl w).alloc _) hv⟩

end Go.Proofs.YtnkhlohoaoiefaaDoor
