/-
  quipukeep.below of one word; quipuref.Apart.
-/
import Derived.Test.YtioaohcnlgbnnaaCw
namespace Go.Proofs.Ytioaohcnlgbnnaa
open Go.RowKit
set_option linter.unusedVariables false

/-- quipukeep.below of one word in new memory. -/
theorem below_one (n : Nat) (hn : n ≤ 12) (q : Nat) (hq : q < 4294967296) (w : World) :
    Calls Try.prog 15 #[.int .i64 n, .slice (some ⟨w.heap.size, 0, none⟩) 1 1] (w.alloc (.cells #[.int .u32 q] 22)) fun e w' => e = .returned (.bool (decide (q < 2 ^ n))) ∧ w' = w.alloc (.cells #[.int .u32 q] 22) := by
  have c1 := refBits_any n [q] (by simp) (fun x hx => by rw [List.mem_singleton.1 hx]; exact hq) w.heap.size 1 (w.alloc (.cells #[.int .u32 q] 22)) (heap_alloc_new _ _)
  rw [ce_nat hn] at c1
  have hr : (if (∀ x ∈ [q], x < 2 ^ n) then (0 : Int) else 4) = if q < 2 ^ n then 0 else 4 := by simp
  rw [hr] at c1
  clear hr
  generalize w.alloc (.cells #[.int .u32 q] 22) = W at *
  by_cases h : q < 2 ^ n
  · rw [if_pos h] at c1
    have hd : decide (q < 2 ^ n) = true := by simp [h]
    rw [hd]
    clear hd h
    go_enter Try.func15, Try.ntmps15
    go_wp2_with fail
    refine c1.mono ?_
    rintro e w' ⟨rfl, rfl⟩
    clear c1
    go_wp2
    go_ret
    exact ⟨rfl, rfl⟩
  · rw [if_neg h] at c1
    have hd : decide (q < 2 ^ n) = false := by simp; omega
    rw [hd]
    clear hd h
    go_enter Try.func15, Try.ntmps15
    go_wp2_with fail
    refine c1.mono ?_
    rintro e w' ⟨rfl, rfl⟩
    clear c1
    go_wp2
    go_ret
    exact ⟨rfl, rfl⟩

/-- quipuref.Apart. -/
theorem refApart_any (x y : Nat) (hx : x < 4294967296) (hy : y < 4294967296) (w : World) :
    Calls Try.prog 16 #[.int .u32 (x : Nat), .int .u32 (y : Nat)] w fun e w' => e = .returned (.int .i64 (far x y : Nat)) ∧ w' = w := by
  have h1 : x ||| y < 2 ^ 32 := Nat.or_lt_two_pow (by omega) (by omega)
  have h2 : x &&& y < 2 ^ 32 := Nat.and_lt_two_pow _ (by omega)
  have c1 := size_any (x ||| y) (by omega) w
  have c2 := size_any (x &&& y) (by omega) w
  have e1 := u32_or_nat x y hx hy
  have e2 := u32_and_nat x y hx hy
  have l1 : pop (x ||| y) ≤ 32 := popN_le 32 _
  have hf := far_or x y
  have hfi : ((pop (x ||| y) : Nat) : Int) - ((pop (x &&& y) : Nat) : Int) = (far x y : Nat) := by omega
  clear hx hy h1 h2
  generalize pop (x ||| y) = A at *
  generalize pop (x &&& y) = B at *
  generalize far x y = C at *
  generalize x ||| y = U at *
  generalize x &&& y = V at *
  go_enter Try.func16, Try.ntmps16
  go_wp2_with fail
  refine c1.mono ?_
  rintro e w' ⟨rfl, rfl⟩
  clear c1
  go_wp2_with fail
  refine c2.mono ?_
  rintro e w' ⟨rfl, rfl⟩
  clear c2
  go_wp2
  go_ret
  exact ⟨ret_int (by omega), rfl⟩

end Go.Proofs.Ytioaohcnlgbnnaa
