/-
  For any number and any power the program tells what comes of them: FieldPows returns true for every two numbers, and changes nothing.
-/
import Derived.Test.YtllkfadghdnhhaaOpen
import Derived.Test.YtllkfadghdnhhaaFac
import Derived.Test.YtllkfadghdnhhaaRf
import Derived.ProofKit
namespace Go.Proofs.Ytllkfadghdnhhaa
open Go.ChangeShapes Go.WideShapes Go.ChangeAt Go.RowKit Go.Deep
set_option linter.unusedVariables false

theorem i64_of {x : Int} (h : (Lit.int .i64 x).wf = true) : -9223372036854775808 ≤ x ∧ x ≤ 9223372036854775807 := by
  have b : IntKind.i64.min = -9223372036854775808 ∧ IntKind.i64.max = 9223372036854775807 := by decide
  simp only [Lit.wf, b, Bool.and_eq_true, decide_eq_true_eq] at h
  omega

theorem ref_row (z : List Int) (hm : z.length ≤ maxLen) (w : World) : Calls Try.prog 10 #[.slice (some ⟨w.heap.size, 0, none⟩) z.length z.length] (w.alloc (.cells (z.map (Value.int .i64)).toArray 3)) fun e w' =>
    e = .returned (.int .i64 (fe z)) ∧ w' = w.alloc (.cells (z.map (Value.int .i64)).toArray 3) := refCheck_row z hm w

theorem fieldPows_bad (a k : Int) (h : fe [a] ≠ 0) (w : World) : Calls Try.prog 5 #[.int .i64 a, .int .i64 k] w fun e w' => e = .returned (.bool true) ∧ Ext w w' := by
  have c1 := Pow_bad a k h w
  have c2 : Hid (∀ W : World, Calls Try.prog 10 #[.slice (some ⟨W.heap.size, 0, none⟩) 1 1] (W.alloc (.cells #[.int .i64 a] 3)) fun e w' => e = .returned (.int .i64 (fe [a])) ∧ w' = W.alloc (.cells #[.int .i64 a] 3)) := fun W => ref_row [a] (by simp [maxLen]) W
  have hz : (fe [a] != 0) = true := bne_iff_ne.2 h
  have hz2 : (fe [a] == 0) = false := beq_eq_false_iff_ne.2 h
  clear h
  generalize fe [a] = X at *
  go_enter Try.func5, Try.ntmps5
  go_wp2_with fail
  refine c1.mono ?_
  rintro e w1 ⟨rfl, E1⟩
  have E2 : Hid (Ext w (w1.alloc (.cells #[.int .i64 a] 3))) := E1.alloc _
  have c3 := c2.out w1
  clear c1 c2 E1
  go_wp2_with fail
  refine c3.mono ?_
  rintro e w2 ⟨rfl, rfl⟩
  clear c3
  go_wp2
  go_ret
  exact ⟨rfl, E2.out⟩

theorem fieldPows_less (a : Nat) (ha : a < 16) (k : Int) (hk : k < 0) (w : World) : Calls Try.prog 5 #[.int .i64 a, .int .i64 k] w fun e w' => e = .returned (.bool true) ∧ Ext w w' := by
  have c1 := Pow_less a ha k hk w
  have c2 : Hid (∀ W : World, Calls Try.prog 10 #[.slice (some ⟨W.heap.size, 0, none⟩) 1 1] (W.alloc (.cells #[.int .i64 a] 3)) fun e w' => e = .returned (.int .i64 0) ∧ w' = W.alloc (.cells #[.int .i64 a] 3)) := fun W => by
    have := ref_row [(a : Int)] (by simp [maxLen]) W
    rw [fe_good (by intro x hx; simp at hx; omega)] at this
    exact this
  go_enter Try.func5, Try.ntmps5
  go_wp2_with fail
  refine c1.mono ?_
  rintro e w1 ⟨rfl, E1⟩
  have E2 : Hid (Ext w (w1.alloc (.cells #[.int .i64 a] 3))) := E1.alloc _
  have c3 := c2.out w1
  clear c1 c2 E1
  go_wp2_with fail
  refine c3.mono ?_
  rintro e w2 ⟨rfl, rfl⟩
  clear c3
  go_wp2
  go_ret
  exact ⟨rfl, E2.out⟩

theorem fieldPows_good (a k : Nat) (ha : a < 16) (hk : k ≤ 9223372036854775807) (w : World) : Calls Try.prog 5 #[.int .i64 a, .int .i64 k] w fun e w' => e = .returned (.bool true) ∧ Ext w w' := by
  have c1 := Pow_good a k ha hk w
  have c2 : Hid (∀ W : World, Calls Try.prog 10 #[.slice (some ⟨W.heap.size, 0, none⟩) 1 1] (W.alloc (.cells #[.int .i64 a] 3)) fun e w' => e = .returned (.int .i64 0) ∧ w' = W.alloc (.cells #[.int .i64 a] 3)) := fun W => by
    have := ref_row [(a : Int)] (by simp [maxLen]) W
    rw [fe_good (by intro x hx; simp at hx; omega)] at this
    exact this
  have c4 : Hid (∀ W : World, Calls Try.prog 15 #[.int .i64 a, .int .i64 k] W fun e w' => e = .returned (.int .i64 (gp a k : Nat)) ∧ w' = W) := fun W => refPow_any a k ha hk W
  have hz : ¬ (k : Int) < 0 := by omega
  generalize gp a k = G at *
  go_enter Try.func5, Try.ntmps5
  go_wp2_with fail
  refine c1.mono ?_
  rintro e w1 ⟨rfl, E1⟩
  have E2 : Hid (Ext w (w1.alloc (.cells #[.int .i64 a] 3))) := E1.alloc _
  have c3 := c2.out w1
  clear c1 c2 E1
  go_wp2_with fail
  refine c3.mono ?_
  rintro e w2 ⟨rfl, rfl⟩
  clear c3
  have c5 := c4.out (w1.alloc (.cells #[.int .i64 a] 3))
  clear c4
  go_wp2_with fail
  refine c5.mono ?_
  rintro e w2 ⟨rfl, rfl⟩
  clear c5
  go_wp2
  go_ret
  exact ⟨rfl, E2.out⟩

theorem fieldPows_walk (a k : Int) (hk : (Lit.int .i64 k).wf = true) (w : World) : Calls Try.prog 5 #[.int .i64 a, .int .i64 k] w fun e w' => e = .returned (.bool true) ∧ Ext w w' := by
  have hk' := i64_of hk
  by_cases h : fe [a] = 0
  · have l1 := fe_zero h a (by simp)
    obtain ⟨m, rfl⟩ : ∃ m : Nat, a = m := ⟨a.toNat, by omega⟩
    by_cases h0 : k < 0
    · exact fieldPows_less m (by omega) k h0 w
    · obtain ⟨n, rfl⟩ : ∃ n : Nat, k = n := ⟨k.toNat, by omega⟩
      exact fieldPows_good m n (by omega) (by omega) w
  · exact fieldPows_bad a k h w

set_option maxRecDepth 100000 in
theorem fieldPows_lifted (os : Os) (started : os.Started) (H : Type) (enc : TypeId × Value → H) :
    ReturnsInHanded {} Try.checked os 5 .any (Rows.fieldPowsSpec.pre6 enc Try.prog Try.f5 Rows.fieldPowsRow.domain false) (Rows.fieldPowsSpec.post enc Try.prog Try.f5 false true false false) := by
  refine returnsInHanded_of_change (C := Try.checked) own started (by kernel_rfl) Try.func5
    (ChangeSpec.witness6 (enc := enc) (C := Try.checked) false ⟨#[], #[.int .i64 0, .int .i64 0], []⟩ 8 (by kernel_rfl) (by kernel_rfl) (by kernel_rfl) (by kernel_rfl)) ?_
  intro W base args ds gs before hval0 hW _ _
  have hval : ∀ (j : Nat) t v, Try.f5.params[j]? = some t → args[j]? = some v → Value.okWide Try.prog W .any base t v := hval0
  have hW' := hW
  obtain ⟨p, q, hA0, hV, rfl, hfz, hnd⟩ := hW
  have hA : DataW.TrodAll enc Try.prog W 0 (fun _ => true) true Try.f5.params.toList args.toList ds p := hA0
  rw [Try.params5] at hA hval
  obtain ⟨v0, vs0, d0, ds0, p0, q0, hargs, rfl, rfl, h0, r0⟩ := trodAll_cons hA
  obtain ⟨v1, vs1, d1, ds1, p1, q1, rfl, rfl, rfl, h1, r1⟩ := trodAll_cons r0
  obtain ⟨rfl, rfl, rfl⟩ := trodAll_nil r1
  obtain rfl : args = #[v0, v1] := by cases args; simp_all
  obtain ⟨rfl, rfl⟩ := trodVars_none hV
  have lt0 : ∀ x ∈ p0, x.block < W.heap.size := by obtain ⟨m, hm⟩ := h0; exact DataW.trod_lt m _ _ _ hm
  obtain ⟨x0, rfl, -, -, wf0⟩ := open_int Try.underlying3 (hval 0 3 v0 rfl rfl) h0
  have lt1 : ∀ x ∈ p1, x.block < W.heap.size := by obtain ⟨m, hm⟩ := h1; exact DataW.trod_lt m _ _ _ hm
  obtain ⟨x1, rfl, -, -, wf1⟩ := open_int Try.underlying3 (hval 1 3 v1 rfl rfl) h1
  clear hA0 hval0
  refine (fieldPows_walk x0 x1 wf1 W).mono fun e W' ⟨he, bel⟩ => ?_
  subst he
  exact ⟨_, rfl, _, _, _, [], _, [], hW', trodAll_mk1 (shut_bool Try.underlying4 _), (trodAll_cons_mk (Below.trod laidOut (by kernel_rfl) (of_decide_eq_true (by kernel_rfl)) h0 bel lt0) (trodAll_cons_mk (Below.trod laidOut (by kernel_rfl) (of_decide_eq_true (by kernel_rfl)) h1 bel lt1) trodAll_mk0)), rfl, bel.frame _, fun h => by cases h⟩

theorem fieldPows_holds : Rows.FieldPowsSaid :=
  OpenClaim.holds_of_wide 5 Try.f5 rfl rfl rfl rfl rfl rfl rfl ⟨rfl, rfl, rfl, rfl, rfl⟩ rfl rfl rfl rfl rfl (by kernel_rfl) Try.func5 (by kernel_rfl)
    (of_decide_eq_true (by kernel_rfl)) (by unfold Func.isWrapper; rw [if_neg (of_decide_eq_false (by kernel_rfl))]; exact ⟨rfl, rfl⟩)
    (fun os started H enc _ => fieldPows_lifted os started H enc)

#print axioms fieldPows_holds

end Go.Proofs.Ytllkfadghdnhhaa
