/-
  What makes 1 of a number makes it of what it makes 1 of, fifteen times with itself it is 1, and one power more is once more the product: FieldInverse returns true for every two numbers, and changes nothing.
-/
import Derived.Test.YtllkfadghdnhhaaOpen
import Derived.Test.YtllkfadghdnhhaaFac
import Derived.ProofKit
namespace Go.Proofs.Ytllkfadghdnhhaa
open Go.ChangeShapes Go.WideShapes Go.ChangeAt Go.RowKit Go.Deep
set_option linter.unusedVariables false

theorem i64_of {x : Int} (h : (Lit.int .i64 x).wf = true) : -9223372036854775808 ≤ x ∧ x ≤ 9223372036854775807 := by
  have b : IntKind.i64.min = -9223372036854775808 ∧ IntKind.i64.max = 9223372036854775807 := by decide
  simp only [Lit.wf, b, Bool.and_eq_true, decide_eq_true_eq] at h
  omega

theorem num_row (z : List Int) (hm : z.length ≤ maxLen) (w : World) : Calls Try.prog 18 #[.slice (some ⟨w.heap.size, 0, none⟩) z.length z.length] (w.alloc (.cells (z.map (Value.int .i64)).toArray 3)) fun e w' =>
    e = .returned (.bool (fe z == 0)) ∧ w' = w.alloc (.cells (z.map (Value.int .i64)).toArray 3) := numbers_row z hm w

theorem fieldInverse_bad (a k : Int) (h : fe [a] ≠ 0) (w : World) : Calls Try.prog 8 #[.int .i64 a, .int .i64 k] w fun e w' => e = .returned (.bool true) ∧ Ext w w' := by
  have c1 := Inv_bad a h w
  have hy : (fe [a] == 0) = false := beq_eq_false_iff_ne.2 h
  have c2 : Hid (∀ W : World, Calls Try.prog 18 #[.slice (some ⟨W.heap.size, 0, none⟩) 1 1] (W.alloc (.cells #[.int .i64 a] 3)) fun e w' => e = .returned (.bool false) ∧ w' = W.alloc (.cells #[.int .i64 a] 3)) := fun W => by
    have := num_row [a] (by simp [maxLen]) W
    rw [hy] at this
    exact this
  have hx : (fe [a] != 0) = true := bne_iff_ne.2 h
  clear h hy
  generalize fe [a] = X at *
  go_enter Try.func8, Try.ntmps8
  go_wp2_with fail
  refine c1.mono ?_
  rintro e w1 ⟨rfl, F1⟩
  have E1 : Hid (Ext w w1) := F1
  have k3 := c2.out w1
  clear c1 F1 c2
  go_wp2_with fail
  refine k3.mono ?_
  rintro e w' ⟨rfl, rfl⟩
  clear k3
  have E3 : Hid (Ext w (w1.alloc (.cells #[.int .i64 a] 3))) := E1.out.alloc _
  go_wp2
  go_ret
  exact ⟨rfl, E3.out⟩

theorem fieldInverse_zero (k : Int) (w : World) : Calls Try.prog 8 #[.int .i64 0, .int .i64 k] w fun e w' => e = .returned (.bool true) ∧ Ext w w' := by
  have c1 := Inv_zero w
  have c2 : Hid (∀ W : World, Calls Try.prog 18 #[.slice (some ⟨W.heap.size, 0, none⟩) 1 1] (W.alloc (.cells #[.int .i64 0] 3)) fun e w' => e = .returned (.bool true) ∧ w' = W.alloc (.cells #[.int .i64 0] 3)) := fun W => by
    have := num_row [0] (by simp [maxLen]) W
    rw [fe_good (by intro x hx; simp at hx; omega)] at this
    exact this
  go_enter Try.func8, Try.ntmps8
  go_wp2_with fail
  refine c1.mono ?_
  rintro e w1 ⟨rfl, F1⟩
  have E1 : Hid (Ext w w1) := F1
  have k3 := c2.out w1
  clear c1 F1 c2
  go_wp2_with fail
  refine k3.mono ?_
  rintro e w' ⟨rfl, rfl⟩
  clear k3
  have E3 : Hid (Ext w (w1.alloc (.cells #[.int .i64 0] 3))) := E1.out.alloc _
  go_wp2
  go_ret
  exact ⟨rfl, E3.out⟩

set_option maxRecDepth 100000 in
theorem fieldInverse_out (a : Nat) (k : Int) (ha : a < 16) (h0 : a ≠ 0) (hk : k < 0 ∨ 1099511627776 < k) (w : World) : Calls Try.prog 8 #[.int .i64 a, .int .i64 k] w fun e w' => e = .returned (.bool true) ∧ Ext w w' := by
  have c1 := Inv_good a ha h0 w
  obtain ⟨o1, o2, o3⟩ := iv_one ha h0
  have li := iv_lt ha
  have c2 : Hid (∀ W : World, Calls Try.prog 9 #[.int .i64 a, .int .i64 (iv a : Nat)] W fun e w' => e = .returned (.tuple #[.int .i64 1, .int .i64 0]) ∧ Ext W w') := fun W => by have := Mul_good a _ ha li W; rw [o1] at this; exact this
  have c3 : Hid (∀ W : World, Calls Try.prog 12 #[.int .i64 (iv a : Nat)] W fun e w' => e = .returned (.tuple #[.int .i64 a, .int .i64 0]) ∧ Ext W w') := fun W => by have := Inv_good _ li o3 W; rw [o2] at this; exact this
  have c4 : Hid (∀ W : World, Calls Try.prog 14 #[.int .i64 a, .int .i64 15] W fun e w' => e = .returned (.tuple #[.int .i64 1, .int .i64 0]) ∧ Ext W w') := fun W => by have := Pow_good a 15 ha (by omega) W; rw [gp_full ha h0] at this; exact this
  have c0 : Hid (∀ W : World, Calls Try.prog 18 #[.slice (some ⟨W.heap.size, 0, none⟩) 1 1] (W.alloc (.cells #[.int .i64 a] 3)) fun e w' => e = .returned (.bool true) ∧ w' = W.alloc (.cells #[.int .i64 a] 3)) := fun W => by
    have := num_row [(a : Int)] (by simp [maxLen]) W
    rw [fe_good (by intro x hx; simp at hx; omega)] at this
    exact this
  have hz : ((a : Int) == 0) = false := beq_eq_false_iff_ne.2 (by omega)
  clear o1 o2 o3 h0 li
  generalize iv a = I at *
  go_enter Try.func8, Try.ntmps8
  go_wp2_with fail
  refine c1.mono ?_
  rintro e w1 ⟨rfl, F1⟩
  have E1 : Hid (Ext w w1) := F1
  have k0 := c0.out w1
  clear c1 F1 c0
  go_wp2_with fail
  refine k0.mono ?_
  rintro e w' ⟨rfl, rfl⟩
  clear k0
  obtain ⟨w2, hw2⟩ : ∃ W, w1.alloc (.cells #[.int .i64 a] 3) = W := ⟨_, rfl⟩
  have E2 : Hid (Ext w w2) := by rw [← hw2]; exact E1.out.alloc _
  rw [hw2]
  clear hw2 E1
  have k3 := c2.out w2
  clear c2
  go_wp2_with fail
  refine k3.mono ?_
  rintro e w3 ⟨rfl, F3⟩
  have E3 : Hid (Ext w w3) := E2.out.trans F3
  clear k3 F3 E2
  have k4 := c3.out w3
  clear c3
  go_wp2_with fail
  refine k4.mono ?_
  rintro e w4 ⟨rfl, F4⟩
  have E4 : Hid (Ext w w4) := E3.out.trans F4
  clear k4 F4 E3
  have k5 := c4.out w4
  clear c4
  go_wp2_with fail
  refine k5.mono ?_
  rintro e w5 ⟨rfl, F5⟩
  have E5 : Hid (Ext w w5) := E4.out.trans F5
  clear k5 F5 E4
  rcases hk with hk | hk
  · go_wp2
    go_ret
    exact ⟨rfl, E5.out⟩
  · have hk2 : ¬ k < 0 := by omega
    go_wp2
    go_ret
    exact ⟨rfl, E5.out⟩

set_option maxRecDepth 100000 in
theorem fieldInverse_in (a : Nat) (k : Nat) (ha : a < 16) (h0 : a ≠ 0) (hk : k ≤ 1099511627776) (w : World) : Calls Try.prog 8 #[.int .i64 a, .int .i64 k] w fun e w' => e = .returned (.bool true) ∧ Ext w w' := by
  have c1 := Inv_good a ha h0 w
  obtain ⟨o1, o2, o3⟩ := iv_one ha h0
  have li := iv_lt ha
  have c2 : Hid (∀ W : World, Calls Try.prog 9 #[.int .i64 a, .int .i64 (iv a : Nat)] W fun e w' => e = .returned (.tuple #[.int .i64 1, .int .i64 0]) ∧ Ext W w') := fun W => by have := Mul_good a _ ha li W; rw [o1] at this; exact this
  have c3 : Hid (∀ W : World, Calls Try.prog 12 #[.int .i64 (iv a : Nat)] W fun e w' => e = .returned (.tuple #[.int .i64 a, .int .i64 0]) ∧ Ext W w') := fun W => by have := Inv_good _ li o3 W; rw [o2] at this; exact this
  have c4 : Hid (∀ W : World, Calls Try.prog 14 #[.int .i64 a, .int .i64 15] W fun e w' => e = .returned (.tuple #[.int .i64 1, .int .i64 0]) ∧ Ext W w') := fun W => by have := Pow_good a 15 ha (by omega) W; rw [gp_full ha h0] at this; exact this
  have c0 : Hid (∀ W : World, Calls Try.prog 18 #[.slice (some ⟨W.heap.size, 0, none⟩) 1 1] (W.alloc (.cells #[.int .i64 a] 3)) fun e w' => e = .returned (.bool true) ∧ w' = W.alloc (.cells #[.int .i64 a] 3)) := fun W => by
    have := num_row [(a : Int)] (by simp [maxLen]) W
    rw [fe_good (by intro x hx; simp at hx; omega)] at this
    exact this
  have hz : ((a : Int) == 0) = false := beq_eq_false_iff_ne.2 (by omega)
  have c5 : Hid (∀ W : World, Calls Try.prog 14 #[.int .i64 a, .int .i64 k] W fun e w' => e = .returned (.tuple #[.int .i64 (gp a k : Nat), .int .i64 0]) ∧ Ext W w') := fun W => Pow_good a k ha (by omega) W
  have c6 : Hid (∀ W : World, Calls Try.prog 14 #[.int .i64 a, .int .i64 ((k : Int) + 1)] W fun e w' => e = .returned (.tuple #[.int .i64 (gm (gp a k) a : Nat), .int .i64 0]) ∧ Ext W w') := fun W => Pow_good a (k + 1) ha (by omega) W
  have c7 : Hid (∀ W : World, Calls Try.prog 9 #[.int .i64 (gp a k : Nat), .int .i64 a] W fun e w' => e = .returned (.tuple #[.int .i64 (gm (gp a k) a : Nat), .int .i64 0]) ∧ Ext W w') := fun W => Mul_good _ a (gp_lt ha k) ha W
  have hk1 : ¬ (k : Int) < 0 := by omega
  have hk2 : ¬ (1099511627776 : Int) < (k : Int) := by omega
  generalize gm (gp a k) a = Q at *
  generalize gp a k = P at *
  clear o1 o2 o3 h0 li
  generalize iv a = I at *
  go_enter Try.func8, Try.ntmps8
  go_wp2_with fail
  refine c1.mono ?_
  rintro e w1 ⟨rfl, F1⟩
  have E1 : Hid (Ext w w1) := F1
  have k0 := c0.out w1
  clear c1 F1 c0
  go_wp2_with fail
  refine k0.mono ?_
  rintro e w' ⟨rfl, rfl⟩
  clear k0
  obtain ⟨w2, hw2⟩ : ∃ W, w1.alloc (.cells #[.int .i64 a] 3) = W := ⟨_, rfl⟩
  have E2 : Hid (Ext w w2) := by rw [← hw2]; exact E1.out.alloc _
  rw [hw2]
  clear hw2 E1
  have k3 := c2.out w2
  clear c2
  go_wp2_with fail
  refine k3.mono ?_
  rintro e w3 ⟨rfl, F3⟩
  have E3 : Hid (Ext w w3) := E2.out.trans F3
  clear k3 F3 E2
  have k4 := c3.out w3
  clear c3
  go_wp2_with fail
  refine k4.mono ?_
  rintro e w4 ⟨rfl, F4⟩
  have E4 : Hid (Ext w w4) := E3.out.trans F4
  clear k4 F4 E3
  have k5 := c4.out w4
  clear c4
  go_wp2_with fail
  refine k5.mono ?_
  rintro e w5 ⟨rfl, F5⟩
  have E5 : Hid (Ext w w5) := E4.out.trans F5
  clear k5 F5 E4
  have k6 := c5.out w5
  clear c5
  go_wp2_with fail
  refine k6.mono ?_
  rintro e w6 ⟨rfl, F6⟩
  have E6 : Hid (Ext w w6) := E5.out.trans F6
  clear k6 F6 E5
  have k7 := c6.out w6
  clear c6
  go_wp2_with fail
  refine k7.mono ?_
  rintro e w7 ⟨rfl, F7⟩
  have E7 : Hid (Ext w w7) := E6.out.trans F7
  clear k7 F7 E6
  have k8 := c7.out w7
  clear c7
  go_wp2_with fail
  refine k8.mono ?_
  rintro e w8 ⟨rfl, F8⟩
  have E8 : Hid (Ext w w8) := E7.out.trans F8
  clear k8 F8 E7
  go_wp2
  go_ret
  exact ⟨rfl, E8.out⟩

theorem fieldInverse_walk (a k : Int) (w : World) : Calls Try.prog 8 #[.int .i64 a, .int .i64 k] w fun e w' => e = .returned (.bool true) ∧ Ext w w' := by
  by_cases h : fe [a] = 0
  · have l1 := fe_zero h a (by simp)
    by_cases h0 : a = 0
    · subst h0
      exact fieldInverse_zero k w
    · obtain ⟨m, rfl⟩ : ∃ m : Nat, a = m := ⟨a.toNat, by omega⟩
      by_cases hk : k < 0 ∨ 1099511627776 < k
      · exact fieldInverse_out m k (by omega) (by omega) hk w
      · obtain ⟨n, rfl⟩ : ∃ n : Nat, k = n := ⟨k.toNat, by omega⟩
        exact fieldInverse_in m n (by omega) (by omega) (by omega) w
  · exact fieldInverse_bad a k h w

set_option maxRecDepth 100000 in
theorem fieldInverse_lifted (os : Os) (started : os.Started) (H : Type) (enc : TypeId × Value → H) :
    ReturnsInHanded {} Try.checked os 8 .any (Rows.fieldInverseSpec.pre6 enc Try.prog Try.f8 Rows.fieldInverseRow.domain false) (Rows.fieldInverseSpec.post enc Try.prog Try.f8 false true false false) := by
  refine returnsInHanded_of_change (C := Try.checked) own started (by kernel_rfl) Try.func8
    (ChangeSpec.witness6 (enc := enc) (C := Try.checked) false ⟨#[], #[.int .i64 0, .int .i64 0], []⟩ 8 (by kernel_rfl) (by kernel_rfl) (by kernel_rfl) (by kernel_rfl)) ?_
  intro W base args ds gs before hval0 hW _ _
  have hval : ∀ (j : Nat) t v, Try.f8.params[j]? = some t → args[j]? = some v → Value.okWide Try.prog W .any base t v := hval0
  have hW' := hW
  obtain ⟨p, q, hA0, hV, rfl, hfz, hnd⟩ := hW
  have hA : DataW.TrodAll enc Try.prog W 0 (fun _ => true) true Try.f8.params.toList args.toList ds p := hA0
  rw [Try.params8] at hA hval
  obtain ⟨v0, vs0, d0, ds0, p0, q0, hargs, rfl, rfl, h0, r0⟩ := trodAll_cons hA
  obtain ⟨v1, vs1, d1, ds1, p1, q1, rfl, rfl, rfl, h1, r1⟩ := trodAll_cons r0
  obtain ⟨rfl, rfl, rfl⟩ := trodAll_nil r1
  obtain rfl : args = #[v0, v1] := by cases args; simp_all
  obtain ⟨rfl, rfl⟩ := trodVars_none hV
  have lt0 : ∀ x ∈ p0, x.block < W.heap.size := by obtain ⟨m, hm⟩ := h0; exact DataW.trod_lt m _ _ _ hm
  obtain ⟨x0, rfl, -, -, wf0⟩ := open_int Try.underlying3 (hval 0 3 v0 rfl rfl) h0
  have lt1 : ∀ x ∈ p1, x.block < W.heap.size := by obtain ⟨m, hm⟩ := h1; exact DataW.trod_lt m _ _ _ hm
  obtain ⟨x1, rfl, -, -, wf1⟩ := open_int Try.underlying3 (hval 1 3 v1 rfl rfl) h1
  clear hA0 hval0
  refine (fieldInverse_walk x0 x1 W).mono fun e W' ⟨he, bel⟩ => ?_
  subst he
  exact ⟨_, rfl, _, _, _, [], _, [], hW', trodAll_mk1 (shut_bool Try.underlying4 _), (trodAll_cons_mk (Below.trod laidOut (by kernel_rfl) (of_decide_eq_true (by kernel_rfl)) h0 bel lt0) (trodAll_cons_mk (Below.trod laidOut (by kernel_rfl) (of_decide_eq_true (by kernel_rfl)) h1 bel lt1) trodAll_mk0)), rfl, bel.frame _, fun h => by cases h⟩

theorem fieldInverse_holds : Rows.FieldInverseSaid :=
  OpenClaim.holds_of_wide 8 Try.f8 rfl rfl rfl rfl rfl rfl rfl ⟨rfl, rfl, rfl, rfl, rfl⟩ rfl rfl rfl rfl rfl (by kernel_rfl) Try.func8 (by kernel_rfl)
    (of_decide_eq_true (by kernel_rfl)) (by unfold Func.isWrapper; rw [if_neg (of_decide_eq_false (by kernel_rfl))]; exact ⟨rfl, rfl⟩)
    (fun os started H enc _ => fieldInverse_lifted os started H enc)

#print axioms fieldInverse_holds

end Go.Proofs.Ytllkfadghdnhhaa
