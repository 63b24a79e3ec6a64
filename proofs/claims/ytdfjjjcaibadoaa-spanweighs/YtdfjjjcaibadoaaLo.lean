/-
  quipuref.Longs of two rows that hold the same.
-/
import Derived.Test.YtdfjjjcaibadoaaRs
namespace Go.Proofs.Ytdfjjjcaibadoaa
open Go.RowKit

theorem longs_same (B C N : Nat) (hN : N ≤ 1000) (f : Nat → Int) (w : World) (h1 : Row w B 2 ((List.range N).map (fun i => Value.int .i64 (f i)))) (h2 : Row w C 2 ((List.range N).map (fun i => Value.int .i64 (f i)))) :
    Calls Try.prog 16 #[.slice (some ⟨B, 0, none⟩) N N, .slice (some ⟨C, 0, none⟩) N N] w fun e w' => e = .returned (.bool true) ∧ Qt w w' := by
  have H1 : Hid (Row w B 2 ((List.range N).map (fun i => Value.int .i64 (f i)))) := h1
  have H2 : Hid (Row w C 2 ((List.range N).map (fun i => Value.int .i64 (f i)))) := h2
  have hz : ((N : Int) != (N : Int)) = false := by simp
  clear h1 h2
  go_enter Try.func16, Try.ntmps16
  go_wp2
  go_loopg [5] N (fun gg s5 wr => ∃ k : Nat, k ≤ N ∧ N - k ≤ gg ∧ s5 = .int .i64 k ∧ Aside (Qt w wr))
  case atStart => exact ⟨0, Nat.zero_le _, by omega, rfl, Qt.refl _⟩
  case round =>
    obtain ⟨k, hk, hg, rfl, Q⟩ := hrel
    by_cases hlt : k < N
    · have hltz : (k : Int) < (N : Int) := by omega
      have e1 := (H1.out.ext Q.out.ext).cellF k hlt
      have e2 := (H2.out.ext Q.out.ext).cellF k hlt
      have hy : (f k != f k) = false := by simp
      generalize f k = y at *
      go_wp2
      go_quiet (fail)
      go_wp2
      go_roundg (N - (k + 1))
      case measure => omega
      case rel => exact ⟨k + 1, by omega, by omega, by go_num, Q.out.drewN _⟩
    · obtain rfl : k = N := by omega
      have hltz : ¬ (k : Int) < (k : Int) := by omega
      go_wp2
      go_ret
      exact ⟨rfl, Q.out⟩

end Go.Proofs.Ytdfjjjcaibadoaa
