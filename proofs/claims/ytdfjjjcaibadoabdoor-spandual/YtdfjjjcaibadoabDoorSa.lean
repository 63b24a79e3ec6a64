/-
  A list of words that is sorted in place: its cells, two of them changed; cmp.Less of words.
-/
import Derived.Test.YtdfjjjcaibadoabDoorKb
import Derived.Test.YtdfjjjcaibadoabDoorOw
import Derived.Test.YtdfjjjcaibadoabDoorChecked
import Derived.Sort.LotA
import Derived.Sort.LotB
import Derived.Sort.LotC
import Derived.Sort.LotD3
import Derived.RegionTactic
import Derived.BigRegion
import Derived.Shelf.Abstract
namespace Go.Proofs.YtdfjjjcaibadoabDoor
open Go.RowKit Go.Sort

/-- The block B opens with the words d; r is what lies behind them. -/
def UA (w : World) (B : Nat) (d : Array Nat) (r : List Value) : Prop := Row w B 23 (uv d.toList ++ r)

theorem get_in {d : Array Nat} {i : Nat} (h : i < d.size) : d[i]! = d[i] := by simp [h]

theorem UA.cell {w : World} {B : Nat} {d : Array Nat} {r : List Value} (h : UA w B d r) {i : Nat} (hi : i < d.size) : w.cell? ⟨B, i, none⟩ = some (.int .u32 (d[i]! : Nat)) := by
  have := Row.cell h i (by simp; omega)
  rw [this, List.getElem_append_left (by simpa using hi), get_in hi]
  simp
theorem UA.fr {w : World} {B : Nat} {d : Array Nat} {r : List Value} (h : UA w B d r) (i : Nat) : w.frozen? ⟨B, i, none⟩ = false := Row.fr h i
theorem UA.ext {w w' : World} {B : Nat} {d : Array Nat} {r : List Value} (h : UA w B d r) (e : Ext w w') : UA w' B d r := Row.ext h e
theorem UA.lt {w : World} {B : Nat} {d : Array Nat} {r : List Value} (h : UA w B d r) : B < w.heap.size := Row.lt h
theorem UA.set {w : World} {B : Nat} {d : Array Nat} {r : List Value} (h : UA w B d r) {i : Nat} (hi : i < d.size) (x : Nat) : UA (w.setCell ⟨B, i, none⟩ (.int .u32 (x : Nat))) B (d.setIfInBounds i x) r := by
  have := Row.set h i (.int .u32 (x : Nat))
  rw [List.set_append_left _ _ (by simpa using hi)] at this
  unfold UA
  rw [Array.toList_setIfInBounds]
  have e : uv (d.toList.set i x) = (uv d.toList).set i (.int .u32 (x : Nat)) := List.map_set
  rw [e]
  exact this
/-- Two words change their places. -/
theorem UA.swp {w : World} {B : Nat} {d : Array Nat} {r : List Value} (h : UA w B d r) {i j : Nat} (hi : i < d.size) (hj : j < d.size) :
    UA ((w.setCell ⟨B, i, none⟩ (.int .u32 (d[j]! : Nat))).setCell ⟨B, j, none⟩ (.int .u32 (d[i]! : Nat))) B (swp d i j) r :=
  (h.set hi _).set (by simpa using hj) _

/-- Less, of words. -/
def lt (x y : Nat) : Bool := decide (x < y)
theorem swo_lt : SWO lt where
  irrefl x := by simp [lt]
  trans x y z h k := by simp [lt] at *; omega
  ntrans x y z h k := by simp [lt] at *; omega
theorem lt_yes {x y : Nat} (h : x < y) : lt x y = true := decide_eq_true h
theorem lt_no {x y : Nat} (h : ¬ x < y) : lt x y = false := decide_eq_false h

theorem nan_any (x : Nat) (w : World) : Calls Tryd.prog 49 #[.int .u32 (x : Nat)] w fun e w' => e = .returned (.bool false) ∧ w' = w := by
  go_enter Tryd.func49, Tryd.ntmps49
  go_wp2
  go_ret
  exact ⟨ret_bool (by simp), rfl⟩

theorem less_any (x y : Nat) (w : World) : Calls Tryd.prog 40 #[.int .u32 (x : Nat), .int .u32 (y : Nat)] w fun e w' => e = .returned (.bool (lt x y)) ∧ ∃ m, w' = w.drewN m := by
  have c1 := nan_any x w
  go_enter Tryd.func40, Tryd.ntmps40
  go_wp2_with fail
  refine c1.mono ?_
  rintro e w' ⟨rfl, rfl⟩
  clear c1
  go_wp2
  go_ret
  exact ⟨ret_bool (by simp [lt]), 0, rfl⟩

end Go.Proofs.YtdfjjjcaibadoabDoor
