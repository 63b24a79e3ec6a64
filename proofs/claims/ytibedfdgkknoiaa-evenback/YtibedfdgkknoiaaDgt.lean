/-
  quipuref.Digits.
-/
import Derived.Test.YtibedfdgkknoiaaRw
import Derived.Test.YtibedfdgkknoiaaEv
namespace Go.Proofs.Ytibedfdgkknoiaa
open Go.RowKit
set_option linter.unusedVariables false

/-- So many digits of a number, the greatest first. -/
def dg (t s : Nat) : List Bool := (List.range s).map (fun i => t.testBit (s - 1 - i))
theorem odd_at (x j : Nat) : (((x / 2 ^ j : Nat) : Int) % 2 == 1) = x.testBit j := by
  generalize hq : x / 2 ^ j = q
  rw [Nat.testBit_eq_decide_div_mod_eq, hq, Bool.eq_iff_iff, beq_iff_eq, decide_eq_true_eq]
  omega

set_option maxHeartbeats 2000000 in
theorem digits_any (x s : Nat) (hx : x ≤ 1048576) (hs : s ≤ 21) (w : World) :
    Calls Try.prog 23 #[.int .i64 (x : Int), .int .i64 (s : Int)] w fun e w' => (∃ B : Nat, e = .returned (.slice (some ⟨B, 0, none⟩) s s) ∧ Row w' B 4 (bv (dg x s)) ∧ w.heap.size ≤ B) ∧ Ext w w' := by
  have hmk := run_make_row' (P := Try.prog) 22 4 (.bool false) 1 Try.underlying22 info4 rfl .i64 .i64 s (by omega) (by omega)
  have st : Hid (∃ W, W = w.alloc (.cells (madeCells #[.bool false] s) 4) ∧ Ext w W ∧ Row W w.heap.size 4 ((List.range s).map (fun i => .bool (decide (s ≤ i) && x.testBit (s - 1 - i))))) :=
    ⟨_, rfl, (Ext.refl w).alloc _, Row.madeF w 4 (.bool false) s _ (fun i hi => by
      have : decide (s ≤ i) = false := by simp; omega
      rw [this]; rfl)⟩
  go_enter Try.func23, Try.ntmps23
  go_wp2
  obtain ⟨W, hW, hE, hR⟩ := st.out
  rw [← hW]
  have HE : Hid (Ext w W) := hE
  have HR : Hid (Row W w.heap.size 4 ((List.range s).map (fun i => .bool (decide (s ≤ i) && x.testBit (s - 1 - i))))) := hR
  clear hW hE hR st hmk
  go_loopg [0, 6] s (fun gg u v wr => ∃ j : Nat, j ≤ s ∧ j ≤ gg ∧ v = .int .i64 ((j : Int) - 1) ∧ u = .int .i64 ((x / 2 ^ (s - j) : Nat) : Int) ∧ Aside (Ext w wr) ∧ Aside (Row wr w.heap.size 4 ((List.range s).map (fun i => .bool (decide (j ≤ i) && x.testBit (s - 1 - i))))))
  case atStart => exact ⟨s, Nat.le_refl _, Nat.le_refl _, rfl, by simp, HE.out, HR.out⟩
  case round =>
    obtain ⟨j, hj, hgg, rfl, rfl, BW, A⟩ := hrel
    cases j with
    | succ i =>
      have hltz : (i : Int) < (s : Int) := by omega
      have hu := A.out.cellF i (by omega)
      have hf := A.out.fr i
      generalize Value.bool (decide (i + 1 ≤ i) && x.testBit (s - 1 - i)) = u at hu
      have nx : Hid (Row (wr.setCell ⟨w.heap.size, i, none⟩ (.bool (((x / 2 ^ (s - (i + 1)) : Nat) : Int) % 2 == 1))) w.heap.size 4 ((List.range s).map (fun i' => .bool (decide (i ≤ i') && x.testBit (s - 1 - i'))))) := by
        rw [odd_at]
        refine A.out.setF _ _ (fun i' hi' => ?_)
        by_cases hi : i' = i
        · subst hi
          rw [if_pos rfl, show s - (i' + 1) = s - 1 - i' by omega]
          simp
        · rw [if_neg hi]
          have : decide (i ≤ i') = decide (i + 1 ≤ i') := by rw [Bool.eq_iff_iff]; simp; omega
          rw [this]
      have nE : Hid (Ext w (wr.setCell ⟨w.heap.size, i, none⟩ (.bool (((x / 2 ^ (s - (i + 1)) : Nat) : Int) % 2 == 1)))) := BW.out.setCell (Nat.le_refl _) _
      have nq : Hid (x / 2 ^ (s - i) = x / 2 ^ (s - (i + 1)) / 2) := by
        show _ = _
        rw [Nat.div_div_eq_div_mul, ← Nat.pow_succ, show (s - (i + 1)).succ = s - i by omega]
      have hq : x / 2 ^ (s - (i + 1)) ≤ 1048576 := Nat.le_trans (Nat.div_le_self _ _) hx
      clear A
      generalize x / 2 ^ (s - (i + 1)) = q at *
      go_wp2
      go_roundg i
      case measure => omega
      case rel => exact ⟨i, by omega, by omega, rfl, by rw [nq.out]; go_num, nE.out, nx.out⟩
    | zero =>
      have F : Hid (Row wr w.heap.size 4 (bv (dg x s))) := by
        have h1 := A.out
        have e : (List.range s).map (fun i => Value.bool (decide (0 ≤ i) && x.testBit (s - 1 - i))) = bv (dg x s) := by
          show _ = List.map Value.bool _
          unfold dg
          rw [List.map_map]
          refine List.map_congr_left (fun i hi => ?_)
          simp
        rw [e] at h1
        exact h1
      clear A
      go_wp2
      go_ret
      exact ⟨⟨_, rfl, F.out, Nat.le_refl _⟩, BW.out⟩

end Go.Proofs.Ytibedfdgkknoiaa
