/-
  muller.checkRange, quipulaw.mullerCheck, muller.degreeOf, muller.oneIf.
-/
import Derived.Test.YtakojkekelhobaaOn
import Derived.Test.YtakojkekelhobaaBt
namespace Go.Proofs.Ytakojkekelhobaa
open Go.RowKit
set_option linter.unusedVariables false

/-- What is told of two numbers. -/
def mce (r m : Int) : Int := if 0 ≤ m ∧ m ≤ 4 ∧ 0 ≤ r ∧ r ≤ m then 0 else 4
theorem mce_ok {r m : Int} (h : 0 ≤ m ∧ m ≤ 4 ∧ 0 ≤ r ∧ r ≤ m) : mce r m = 0 := if_pos h
theorem mce_bad {r m : Int} (h : ¬ (0 ≤ m ∧ m ≤ 4 ∧ 0 ≤ r ∧ r ≤ m)) : mce r m = 4 := if_neg h

theorem checkRange_any (r m : Int) (w : World) : Calls Try.prog 17 #[.int .i64 r, .int .i64 m] w fun e w' => e = .returned (.int .i64 (mce r m)) ∧ w' = w := by
  by_cases h1 : m < 0
  · rw [mce_bad (by omega)]
    go_enter Try.func17, Try.ntmps17
    go_wp2
    go_ret
    exact ⟨rfl, rfl⟩
  by_cases h2 : 4 < m
  · rw [mce_bad (by omega)]
    go_enter Try.func17, Try.ntmps17
    go_wp2
    go_ret
    exact ⟨rfl, rfl⟩
  by_cases h3 : r < 0
  · rw [mce_bad (by omega)]
    go_enter Try.func17, Try.ntmps17
    go_wp2
    go_ret
    exact ⟨rfl, rfl⟩
  by_cases h4 : m < r
  · rw [mce_bad (by omega)]
    go_enter Try.func17, Try.ntmps17
    go_wp2
    go_ret
    exact ⟨rfl, rfl⟩
  rw [mce_ok (by omega)]
  go_enter Try.func17, Try.ntmps17
  go_wp2
  go_ret
  exact ⟨rfl, rfl⟩

theorem mullerCheck_any (r m : Int) (w : World) : Calls Try.prog 9 #[.int .i64 r, .int .i64 m] w fun e w' => e = .returned (.int .i64 (mce r m)) ∧ w' = w := by
  by_cases h1 : m < 0
  · rw [mce_bad (by omega)]
    go_enter Try.func9, Try.ntmps9
    go_wp2
    go_ret
    exact ⟨rfl, rfl⟩
  by_cases h2 : 4 < m
  · rw [mce_bad (by omega)]
    go_enter Try.func9, Try.ntmps9
    go_wp2
    go_ret
    exact ⟨rfl, rfl⟩
  by_cases h3 : r < 0
  · rw [mce_bad (by omega)]
    go_enter Try.func9, Try.ntmps9
    go_wp2
    go_ret
    exact ⟨rfl, rfl⟩
  by_cases h4 : m < r
  · rw [mce_bad (by omega)]
    go_enter Try.func9, Try.ntmps9
    go_wp2
    go_ret
    exact ⟨rfl, rfl⟩
  rw [mce_ok (by omega)]
  go_enter Try.func9, Try.ntmps9
  go_wp2
  go_ret
  exact ⟨rfl, rfl⟩

theorem degreeOf_any (x : Nat) (hx : x < 4096) (w : World) : Calls Try.prog 23 #[.int .u32 x] w fun e w' => e = .returned (.int .i64 (pop x : Nat)) ∧ ∃ d, w' = w.drewN d := by
  have c := ones_any x hx w
  generalize pop x = p at *
  go_enter Try.func23, Try.ntmps23
  go_wp2_with (go_at_call 34; refine c.mono ?_; rintro e w2 ⟨rfl, d, rfl⟩)
  go_ret
  exact ⟨rfl, _, rfl⟩

theorem oneIf_any (b : Bool) (w : World) : Calls Try.prog 39 #[.bool b] w fun e w' => e = .returned (.int .i64 (if b then 1 else 0)) ∧ w' = w := by
  cases b
  · go_enter Try.func39, Try.ntmps39
    go_wp2
    go_ret
    exact ⟨rfl, rfl⟩
  · go_enter Try.func39, Try.ntmps39
    go_wp2
    go_ret
    exact ⟨rfl, rfl⟩

end Go.Proofs.Ytakojkekelhobaa
