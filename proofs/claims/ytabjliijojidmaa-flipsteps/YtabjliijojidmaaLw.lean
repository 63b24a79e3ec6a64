/-
  What the laws of flip have in common: when checks and a word are good; quipulaw.checked.
-/
import Derived.Test.YtabjliijojidmaaRn
import Derived.Test.YtabjliijojidmaaBl
namespace Go.Proofs.Ytabjliijojidmaa
open Go.RowKit
set_option linter.unusedVariables false

theorem we_is {n : Int} {g : List Nat} {q : Nat} (h : we n g q n.toNat = 0) : ∃ s : Nat, n = s ∧ s ≤ 12 ∧ g.length ≤ 8 ∧ (∀ y ∈ g, y < 2 ^ s) ∧ q < 2 ^ s := by
  by_cases hr : re n g = 0
  · obtain ⟨s, rfl, h1, h2, h3⟩ := re_zero hr
    rw [we_good h1 h2 h3, Int.toNat_natCast] at h
    refine ⟨s, rfl, h1, h2, h3, ?_⟩
    by_cases hq : q < 2 ^ s
    · exact hq
    · rw [if_neg hq] at h; omega
  · rw [we_bad hr] at h
    exact absurd h hr

theorem chk_bad (n : Int) (x : Um) (hb : ∀ y ∈ x.z, y < 4294967296) (q : Nat) (hq : q < 4294967296) (w : World) (hx : Us w x) :
    Calls Try.prog 9 #[.int .i64 n, x.v, .int .u32 (q : Nat), .int .i64 n] w fun e w' => e = .returned (.int .i64 (we n x.z q n.toNat)) ∧ w' = w :=
  checked_any n x hb q hq n.toNat (by intro h; obtain ⟨m, rfl, h1, h2, h3⟩ := re_zero h; omega) w hx n (by intro h; obtain ⟨m, rfl, h1, h2, h3⟩ := re_zero h; omega)

theorem chk_good (n : Nat) (hn : n ≤ 12) (x : Um) (hl : x.z.length ≤ 8) (hb : ∀ y ∈ x.z, y < 2 ^ n) (q : Nat) (hq : q < 2 ^ n) (w : World) (hx : Us w x) :
    Calls Try.prog 9 #[.int .i64 (n : Int), x.v, .int .u32 (q : Nat), .int .i64 (n : Int)] w fun e w' => e = .returned (.int .i64 0) ∧ w' = w := by
  have hp : 2 ^ n ≤ 2 ^ 12 := Nat.pow_le_pow_right (by omega) hn
  have h := chk_bad n x (rows_low hn hb) q (by omega) w hx
  rw [we_good hn hl hb, Int.toNat_natCast, if_pos hq] at h
  exact h

theorem rows_yes (n : Nat) (hn : n ≤ 12) (x : Um) (hl : x.z.length ≤ 8) (hb : ∀ y ∈ x.z, y < 2 ^ n) (w : World) (hx : Us w x) :
    Calls Try.prog 14 #[.int .i64 (n : Int), x.v] w fun e w' => e = .returned (.bool true) ∧ w' = w := by
  have h := rowed_any n x (rows_low hn hb) w hx
  rw [re_good hn hl hb] at h
  exact h

theorem below_yes (n : Nat) (hn : n ≤ 12) (q : Nat) (hq : q < 2 ^ n) (w : World) :
    Calls Try.prog 15 #[.int .i64 (n : Int), .slice (some ⟨w.heap.size, 0, none⟩) 1 1] (w.alloc (.cells #[.int .u32 q] 23)) fun e w' => e = .returned (.bool true) ∧ w' = w.alloc (.cells #[.int .u32 q] 23) := by
  have hp : 2 ^ n ≤ 2 ^ 12 := Nat.pow_le_pow_right (by omega) hn
  have h := below_one n hn q (by omega) w
  rw [decide_eq_true hq] at h
  exact h

theorem below_no (n : Nat) (hn : n ≤ 12) (q : Nat) (hq : q < 4294967296) (h : ¬ q < 2 ^ n) (w : World) :
    Calls Try.prog 15 #[.int .i64 (n : Int), .slice (some ⟨w.heap.size, 0, none⟩) 1 1] (w.alloc (.cells #[.int .u32 q] 23)) fun e w' => e = .returned (.bool false) ∧ w' = w.alloc (.cells #[.int .u32 q] 23) := by
  have c := below_one n hn q hq w
  rw [decide_eq_false h] at c
  exact c

end Go.Proofs.Ytabjliijojidmaa
