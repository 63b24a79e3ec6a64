/-
  hamm.Put, Fix.
-/
import Derived.Test.YtdplmaofapnhhabPut
import Derived.Test.YtdplmaofapnhhabFix
namespace Go.Proofs.Ytdplmaofapnhhab
open Go.RowKit
set_option linter.unusedVariables false

theorem len_data {r : Nat} (h : R r) {n : Nat} : (n : Int) = (2 ^ r : Nat) - 1 + -(r : Int) ↔ n = 2 ^ r - 1 - r := by
  obtain rfl | rfl | rfl := h.cases <;> (simp; omega)
theorem len_bits {r : Nat} (h : R r) {n : Nat} : (n : Int) = (2 ^ r : Nat) - 1 + 0 ↔ n = 2 ^ r - 1 := by
  obtain rfl | rfl | rfl := h.cases <;> (simp; omega)
theorem len_bits2 {r : Nat} (h : R r) {n : Nat} : (n : Int) = (2 ^ r : Nat) - 1 + 1 ↔ n = 2 ^ r - 1 + 1 := by
  obtain rfl | rfl | rfl := h.cases <;> (simp; omega)

theorem Put_bad (r : Int) (x : Wd) (h : cke r x.l.length (-r) ≠ 0) (w : World) :
    Calls Try.prog 5 #[.int .i64 r, x.v] w fun e w' => e = .returned (.tuple #[.slice none 0 0, .int .i64 (cke r x.l.length (-r))]) ∧ w' = w := by
  have c1 := checkData_any r x w
  have hb : (cke r x.l.length (-r) == 0) = false := beq_eq_false_iff_ne.2 h
  generalize cke r x.l.length (-r) = E at *
  simp only [Wd.v] at *
  go_enter Try.func5, Try.ntmps5
  go_wp2_with fail
  refine c1.mono ?_
  rintro e w1 ⟨rfl, rfl⟩
  clear c1
  go_wp2
  go_ret2
  exact ⟨rfl, rfl⟩

theorem Put_good {r : Nat} (hr : R r) (x : Wd) (hd : x.l.length = 2 ^ r - 1 - r) (w : World) (hx : Bits w x) :
    Calls Try.prog 5 #[.int .i64 r, x.v] w fun e w' => ∃ v, e = .returned (.tuple #[v, .int .i64 0]) ∧ OwnB w w' v (hp r x.l) := by
  have c1 := checkData_any r x w
  rw [cke_good hr ((len_data hr).2 hd)] at c1
  have c2 := hput_any hr x hd w hx
  simp only [Wd.v] at c1 c2 ⊢
  clear hx hd hr
  generalize hp r x.l = H at *
  go_enter Try.func5, Try.ntmps5
  go_wp2_with fail
  refine c1.mono ?_
  rintro e w1 ⟨rfl, rfl⟩
  clear c1
  go_wp2_with fail
  refine c2.mono ?_
  rintro e w2 ⟨v, rfl, O⟩
  have O' : Hid (OwnB w1 w2 v H) := O
  clear c2 O
  go_wp2
  go_ret2
  exact ⟨_, rfl, O'.out⟩

theorem Fix_bad (r : Int) (x : Wd) (h : cke r x.l.length 0 ≠ 0) (w : World) :
    Calls Try.prog 4 #[.int .i64 r, x.v] w fun e w' => e = .returned (.tuple #[.slice none 0 0, .int .i64 0, .int .i64 (cke r x.l.length 0)]) ∧ w' = w := by
  have c1 := checkBits0_any r x w
  have hb : (cke r x.l.length 0 == 0) = false := beq_eq_false_iff_ne.2 h
  generalize cke r x.l.length 0 = E at *
  simp only [Wd.v] at *
  go_enter Try.func4, Try.ntmps4
  go_wp2_with fail
  refine c1.mono ?_
  rintro e w1 ⟨rfl, rfl⟩
  clear c1
  go_wp2
  go_ret3
  exact ⟨rfl, rfl⟩

theorem Fix_good {r : Nat} (hr : R r) (x : Wd) (hd : x.l.length = 2 ^ r - 1) (w : World) (hx : Bits w x) :
    Calls Try.prog 4 #[.int .i64 r, x.v] w fun e w' => ∃ v, e = .returned (.tuple #[v, .int .i64 (pf 1 x.l : Nat), .int .i64 0]) ∧ OwnB w w' v (dt 1 (fx x.l)) := by
  have c1 := checkBits0_any r x w
  rw [cke_good hr ((len_bits hr).2 hd)] at c1
  have h15 : 1 ≤ 2 ^ r - 1 ∧ 2 ^ r - 1 ≤ 15 := by obtain rfl | rfl | rfl := hr.cases <;> decide
  have hpl := pf_lt r x.l 1 (by omega)
  have c2 := hfix_any x (by omega) (by omega) (by omega) w hx
  simp only [Wd.v] at c1 c2 ⊢
  clear hpl h15 hx hd hr
  generalize pf 1 x.l = p at *
  generalize dt 1 (fx x.l) = D at *
  go_enter Try.func4, Try.ntmps4
  go_wp2_with fail
  refine c1.mono ?_
  rintro e w1 ⟨rfl, rfl⟩
  clear c1
  go_wp2_with fail
  refine c2.mono ?_
  rintro e w2 ⟨v, rfl, O⟩
  have O' : Hid (OwnB w1 w2 v D) := O
  clear c2 O
  go_wp2
  go_ret3
  exact ⟨_, rfl, O'.out⟩

end Go.Proofs.Ytdplmaofapnhhab
