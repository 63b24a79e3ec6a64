/-
  Two words change their places, where they may be one; the two scans of a partition, plain.
-/
import Derived.Test.YtdfjjjcaibadoabDoorSa
namespace Go.Proofs.YtdfjjjcaibadoabDoor
open Go.RowKit Go.Sort

/-- All that the walk of 'data[i], data[j] = data[j], data[i]' wants, i and j one or not. -/
theorem ua_ready {w : World} {B n : Nat} {d : Array Nat} {r : List Value} (h : UA w B d r) (hn : d.size = n) (i j : Nat) (hi : i < n) (hj : j < n) : ∃ x y z : Nat,
    w.cell? ⟨B, i, none⟩ = some (.int .u32 (x : Nat)) ∧ w.cell? ⟨B, j, none⟩ = some (.int .u32 (y : Nat)) ∧ w.frozen? ⟨B, i, none⟩ = false ∧ w.frozen? ⟨B, j, none⟩ = false ∧
    ((w.setCell ⟨B, i, none⟩ (.int .u32 (y : Nat))).drew).cell? ⟨B, j, none⟩ = some (.int .u32 (z : Nat)) ∧ ((w.setCell ⟨B, i, none⟩ (.int .u32 (y : Nat))).drew).frozen? ⟨B, j, none⟩ = false ∧
    Hid (UA (((w.setCell ⟨B, i, none⟩ (.int .u32 (y : Nat))).setCell ⟨B, j, none⟩ (.int .u32 (x : Nat))).drew) B (swp d i j) r) ∧ Hid ((swp d i j).size = n) ∧
    Hid (KB B w (((w.setCell ⟨B, i, none⟩ (.int .u32 (y : Nat))).setCell ⟨B, j, none⟩ (.int .u32 (x : Nat))).drew)) := by
  have hs := (h.set (i := i) (by omega) d[j]!).ext (ext_drew _)
  exact ⟨d[i]!, d[j]!, (d.setIfInBounds i d[j]!)[j]!, h.cell (by omega), h.cell (by omega), h.fr i, h.fr j, hs.cell (by simp; omega), hs.fr j,
    (h.swp (by omega) (by omega)).ext (ext_drew _), (size_swp d i j).trans hn, (((KB.refl B w).setCell _).setCell _).trans (KB.of_ext (ext_drew _))⟩

theorem scanUp_go {p : Nat → Bool} {d : Array Nat} {j i : Nat} (h : i ≤ j ∧ p d[i]! = true) : scanUp p d j i = scanUp p d j (i + 1) := by
  rw [scanUp, if_pos (by simp [h])]
theorem scanUp_stop {p : Nat → Bool} {d : Array Nat} {j i : Nat} (h : ¬ (i ≤ j ∧ p d[i]! = true)) : scanUp p d j i = i := by
  rw [scanUp, if_neg (by simpa using h)]
theorem scanDown_go {p : Nat → Bool} {d : Array Nat} {j i : Nat} (h : i ≤ j + 1 ∧ p d[j + 1]! = true) : scanDown p d i (j + 1) = scanDown p d i j := by
  rw [scanDown, if_pos (by simp [h])]
theorem scanDown_stop {p : Nat → Bool} {d : Array Nat} {j i : Nat} (h : ¬ (i ≤ j ∧ p d[j]! = true)) : scanDown p d i j = j := by
  cases j with
  | zero => rfl
  | succ j => rw [scanDown, if_neg (by simpa using h)]
theorem scanUp_le {p : Nat → Bool} {d : Array Nat} {j i n : Nat} (h1 : i ≤ n) (h2 : j + 1 ≤ n) : scanUp p d j i ≤ n := by
  by_cases h : i ≤ j + 1
  · have := (scanUp_spec p d j _ i rfl).2.1 h; omega
  · rw [scanUp_stop (fun h' => h (by omega))]; exact h1
theorem scanDown_ge {p : Nat → Bool} {d : Array Nat} {j i : Nat} (h : i ≤ j + 1) : i ≤ scanDown p d i j + 1 := (scanDown_spec p d i j).2.1 h

end Go.Proofs.YtdfjjjcaibadoabDoor
