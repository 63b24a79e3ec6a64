/-
  quipuref.BitsCheck of a list that holds one word, or two; quipukeep.below; rank.Rank of any word.
-/
import Derived.Test.YtioaohcnlgbnnaaWd
namespace Go.Proofs.Ytioaohcnlgbnnaa
open Go.RowKit

theorem bitsOut_any (n : Int) (h : ¬ (0 ≤ n ∧ n ≤ 12)) (a : Option Addr) (m c : Nat) (w : World) : Calls Try.prog 9 #[.int .i64 n, .slice a m c] w fun e w' => e = .returned (.int .i64 1) ∧ w' = w := by
  rcases Int.lt_or_le n 0 with h0 | h0
  · go_enter Try.func9, Try.ntmps9
    go_wp2
    go_ret
    exact ⟨rfl, rfl⟩
  · have h1 : 12 < n := by omega
    go_enter Try.func9, Try.ntmps9
    go_wp2
    go_ret
    exact ⟨rfl, rfl⟩

/-- What is told of two words. -/
def be2 (n : Int) (x y : Nat) : Int := if 0 ≤ n ∧ n ≤ 12 then (if x < 2 ^ n.toNat ∧ y < 2 ^ n.toNat then 0 else 4) else 1

theorem bitsTwo_any (n : Int) (x y : Nat) (hx : x < 4294967296) (hy : y < 4294967296) (w : World) : Calls Try.prog 9 #[.int .i64 n, .slice (some ⟨w.heap.size, 0, none⟩) 2 2] (w.alloc (.cells #[.int .u32 x, .int .u32 y] 22)) fun e w' => e = .returned (.int .i64 (be2 n x y)) ∧ w' = w.alloc (.cells #[.int .u32 x, .int .u32 y] 22) := by
  unfold be2
  by_cases hn : 0 ≤ n ∧ n ≤ 12
  · rw [if_pos hn]
    obtain ⟨N, rfl⟩ : ∃ N : Nat, n = N := ⟨n.toNat, by omega⟩
    have R : Row (w.alloc (.cells #[.int .u32 x, .int .u32 y] 22)) w.heap.size 22 [.int .u32 x, .int .u32 y] := heap_alloc_new _ _
    have c := bitsCheck_any N (by omega) w.heap.size 0 2 2 [x, y] rfl (by omega) _ (fun i hi => by
      rcases (show i = 0 ∨ i = 1 by omega) with rfl | rfl
      · exact R.cell 0 (by simp)
      · exact R.cell 1 (by simp)) (fun i hi => by
      rcases (show i = 0 ∨ i = 1 by omega) with rfl | rfl
      · exact hx
      · exact hy)
    refine c.mono ?_
    rintro e w' ⟨rfl, rfl⟩
    refine ⟨ret_int ?_, rfl⟩
    simp
  · rw [if_neg hn]
    exact bitsOut_any n hn _ 2 2 _

theorem u32_ends : IntKind.u32.min = 0 ∧ IntKind.u32.max = 4294967295 := by decide
theorem u32_in {x : Int} (h : (Lit.int .u32 x).wf = true) : 0 ≤ x ∧ x < 4294967296 := by
  simp only [Lit.wf, u32_ends, Bool.and_eq_true, decide_eq_true_eq] at h
  omega

end Go.Proofs.Ytioaohcnlgbnnaa
