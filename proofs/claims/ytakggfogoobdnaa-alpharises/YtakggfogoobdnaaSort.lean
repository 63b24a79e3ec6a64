/-
  cmp.Compare; slices.insertionSortCmpFunc over trees, by the function value that Lens hands it.
-/
import Derived.Test.YtakggfogoobdnaaOwn
import Derived.Test.YtakggfogoobdnaaHuf
import Derived.RegionTactic
import Derived.Shelf.Abstract
import Derived.Deep.DeepCutAuto
namespace Go.Proofs.Ytakggfogoobdnaa
open Go.RowKit

def cmpI (x y : Int) : Int := if x < y then -1 else if y < x then 1 else 0
theorem cmpI_lt {x y : Int} (h : x < y) : cmpI x y = -1 := by simp [cmpI, h]
theorem cmpI_gt {x y : Int} (h : y < x) : cmpI x y = 1 := by
  simp [cmpI, h]; omega
theorem cmpI_eq {x y : Int} (h : x = y) : cmpI x y = 0 := by
  subst h; simp [cmpI]
theorem cmpI_neg {x y : Int} : cmpI x y < 0 ↔ x < y := by
  unfold cmpI
  split
  · simp_all
  · split <;> simp_all <;> omega

theorem isNaN_any (x : Int) (w : World) : Calls Try.prog 51 #[.int .i64 x] w fun e w' => e = .returned (.bool false) ∧ w' = w := by
  go_enter Try.func51, Try.ntmps51
  go_wp2
  go_ret
  exact ⟨rfl, rfl⟩

set_option maxHeartbeats 1000000 in
theorem compare_any (x y : Int) (w : World) : Calls Try.prog 43 #[.int .i64 x, .int .i64 y] w fun e w' => e = .returned (.int .i64 (cmpI x y)) ∧ w' = w := by
  have h1 := isNaN_any x w
  have h2 := isNaN_any y w
  rcases Int.lt_trichotomy x y with h | h | h
  · rw [cmpI_lt h]
    go_enter Try.func43, Try.ntmps43
    go_wp2_with (first | (refine h1.mono ?_; rintro e w1 ⟨rfl, rfl⟩) | (refine h2.mono ?_; rintro e w1 ⟨rfl, rfl⟩))
    go_ret
    exact ⟨rfl, rfl⟩
  · rw [cmpI_eq h]
    subst h
    go_enter Try.func43, Try.ntmps43
    go_wp2_with (first | (refine h1.mono ?_; rintro e w1 ⟨rfl, rfl⟩) | (refine h2.mono ?_; rintro e w1 ⟨rfl, rfl⟩))
    go_ret
    exact ⟨rfl, rfl⟩
  · rw [cmpI_gt h]
    have h' : ¬ x < y := by omega
    go_enter Try.func43, Try.ntmps43
    go_wp2_with (first | (refine h1.mono ?_; rintro e w1 ⟨rfl, rfl⟩) | (refine h2.mono ?_; rintro e w1 ⟨rfl, rfl⟩))
    go_ret
    exact ⟨rfl, rfl⟩

/-- A tree as it lies in memory: its weight, its list of symbols; beside them the symbols with how deep they hang. -/
structure Tr where
  x : Int
  g : Nat
  n : Nat
  c : Nat
  S : List (Nat × Nat)
abbrev Tr.v (t : Tr) : Value := .slice (some ⟨t.g, 0, none⟩) t.n t.c
def Tr.cells (t : Tr) : List Value := [.int .i64 t.x, t.v]
abbrev Tr.agg (t : Tr) : Value := .agg #[.int .i64 t.x, t.v]

set_option maxHeartbeats 1000000 in
theorem lighter_any (x y : Int) (a b : Option Addr) (n c m d : Nat) (w : World) :
    Calls Try.prog 42 (#[.agg #[.int .i64 x, .slice a n c], .agg #[.int .i64 y, .slice b m d]] ++ #[]) w fun e w' => e = .returned (.int .i64 (cmpI x y)) ∧ Ext w w' := by
  show Calls Try.prog 42 #[.agg #[.int .i64 x, .slice a n c], .agg #[.int .i64 y, .slice b m d]] w _
  go_enter Try.func42, Try.ntmps42
  go_wp2_with fail
  refine (compare_any x y _).mono ?_
  rintro e w1 ⟨rfl, rfl⟩
  go_wp2
  go_ret
  exact ⟨rfl, ((Ext.refl w).alloc _).alloc _⟩

end Go.Proofs.Ytakggfogoobdnaa
