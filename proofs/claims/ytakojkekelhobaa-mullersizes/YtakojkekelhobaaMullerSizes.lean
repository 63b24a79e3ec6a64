/-
  For any two numbers the program tells how many products there are: MullerSizes returns true for every two numbers, and changes nothing.
-/
import Derived.Test.YtakojkekelhobaaOpen
import Derived.Test.YtakojkekelhobaaFr
import Derived.Test.YtakojkekelhobaaRg
namespace Go.Proofs.Ytakojkekelhobaa
open Go.ChangeShapes Go.WideShapes Go.ChangeAt Go.RowKit Go.Deep
set_option linter.unusedVariables false

theorem mullerSizes_bad (r m : Int) (h : mce r m = 4) (w : World) : Calls Try.prog 3 #[.int .i64 r, .int .i64 m] w fun e w' => e = .returned (.bool true) ∧ Ext w w' := by
  have c1 := Size_bad r m h w
  have c2 := mullerCheck_any r m w
  rw [h] at c2
  clear h
  go_enter Try.func3, Try.ntmps3
  go_wp2_with fail
  refine c1.mono ?_
  rintro e w1 ⟨rfl, rfl⟩
  clear c1
  go_wp2_with fail
  refine c2.mono ?_
  rintro e w1 ⟨rfl, rfl⟩
  clear c2
  go_wp2
  go_ret
  exact ⟨rfl, Ext.refl _⟩

theorem mullerSizes_good {r m : Nat} (hm : m ≤ 4) (hr : r ≤ m) (w : World) : Calls Try.prog 3 #[.int .i64 r, .int .i64 m] w fun e w' => e = .returned (.bool true) ∧ Ext w w' := by
  have c1 := Size_good hm hr w
  have c2 : Hid (∀ W, Calls Try.prog 9 #[.int .i64 r, .int .i64 m] W fun e w' => e = .returned (.int .i64 0) ∧ w' = W) := fun W => by
    have := mullerCheck_any r m W
    rw [mce_nat hm hr] at this
    exact this
  have PL : Hid (∀ W, Calls Try.prog 10 #[.int .i64 r, .int .i64 m] W fun e w' => ∃ a c, e = .returned (.slice a (pl m (r + 1)).length c) ∧ Ext W w') := fun W => by
    refine (products_any r m hm hr W).mono ?_
    rintro e w' ⟨v, rfl, O⟩
    obtain ⟨a, c, hv⟩ := O.form
    exact ⟨a, c, by rw [hv, iv_len], O.1⟩
  generalize (pl m (r + 1)).length = n at *
  clear hm hr
  go_enter Try.func3, Try.ntmps3
  go_wp2_with fail
  refine c1.mono ?_
  rintro e w1 ⟨rfl, E1⟩
  have E1' : Hid (Ext w w1) := E1
  clear c1 E1
  go_wp2_with fail
  refine (c2.out _).mono ?_
  rintro e w2 ⟨rfl, rfl⟩
  clear c2
  go_wp2_with fail
  refine (PL.out _).mono ?_
  rintro e w3 ⟨a, c, rfl, E3⟩
  have E3' : Hid (Ext w w3) := E1'.out.trans E3
  clear PL E1' E3
  go_wp2
  go_ret
  exact ⟨rfl, E3'.out⟩

theorem mullerSizes_walk (r m : Int) (w : World) : Calls Try.prog 3 #[.int .i64 r, .int .i64 m] w fun e w' => e = .returned (.bool true) ∧ Ext w w' := by
  by_cases h : 0 ≤ m ∧ m ≤ 4 ∧ 0 ≤ r ∧ r ≤ m
  · obtain ⟨M, rfl⟩ : ∃ M : Nat, m = M := ⟨m.toNat, by omega⟩
    obtain ⟨R, rfl⟩ : ∃ R : Nat, r = R := ⟨r.toNat, by omega⟩
    exact mullerSizes_good (by omega) (by omega) w
  · exact mullerSizes_bad r m (mce_bad h) w

set_option maxRecDepth 100000 in
theorem mullerSizes_lifted (os : Os) (started : os.Started) (H : Type) (enc : TypeId × Value → H) :
    ReturnsInHanded {} Try.checked os 3 .any (Rows.mullerSizesSpec.pre6 enc Try.prog Try.f3 Rows.mullerSizesRow.domain false) (Rows.mullerSizesSpec.post enc Try.prog Try.f3 false true false false) := by
  refine returnsInHanded_of_change (C := Try.checked) own started (by kernel_rfl) Try.func3
    (ChangeSpec.witness6 (enc := enc) (C := Try.checked) false ⟨#[], #[.int .i64 0, .int .i64 0], []⟩ 8 (by kernel_rfl) (by kernel_rfl) (by kernel_rfl) (by kernel_rfl)) ?_
  intro W base args ds gs before hval0 hW _ _
  have hval : ∀ (j : Nat) t v, Try.f3.params[j]? = some t → args[j]? = some v → Value.okWide Try.prog W .any base t v := hval0
  have hW' := hW
  obtain ⟨p, q, hA0, hV, rfl, hfz, hnd⟩ := hW
  have hA : DataW.TrodAll enc Try.prog W 0 (fun _ => true) true Try.f3.params.toList args.toList ds p := hA0
  rw [Try.params3] at hA hval
  obtain ⟨v0, vs0, d0, ds0, p0, q0, hargs, rfl, rfl, h0, r0⟩ := trodAll_cons hA
  obtain ⟨v1, vs1, d1, ds1, p1, q1, rfl, rfl, rfl, h1, r1⟩ := trodAll_cons r0
  obtain ⟨rfl, rfl, rfl⟩ := trodAll_nil r1
  obtain rfl : args = #[v0, v1] := by cases args; simp_all
  obtain ⟨rfl, rfl⟩ := trodVars_none hV
  have lt0 : ∀ x ∈ p0, x.block < W.heap.size := by obtain ⟨m, hm⟩ := h0; exact DataW.trod_lt m _ _ _ hm
  obtain ⟨x0, rfl, -, -, wf0⟩ := open_int Try.underlying3 (hval 0 3 v0 rfl rfl) h0
  have lt1 : ∀ x ∈ p1, x.block < W.heap.size := by obtain ⟨m, hm⟩ := h1; exact DataW.trod_lt m _ _ _ hm
  obtain ⟨x1, rfl, -, -, wf1⟩ := open_int Try.underlying3 (hval 1 3 v1 rfl rfl) h1
  clear hA0 hval0
  refine (mullerSizes_walk x0 x1 W).mono fun e W' ⟨he, bel⟩ => ?_
  subst he
  exact ⟨_, rfl, _, _, _, [], _, [], hW', trodAll_mk1 (shut_bool Try.underlying4 _), (trodAll_cons_mk (Below.trod laidOut (by kernel_rfl) (of_decide_eq_true (by kernel_rfl)) h0 bel lt0) (trodAll_cons_mk (Below.trod laidOut (by kernel_rfl) (of_decide_eq_true (by kernel_rfl)) h1 bel lt1) trodAll_mk0)), rfl, bel.frame _, fun h => by cases h⟩

theorem mullerSizes_holds : Rows.MullerSizesSaid :=
  OpenClaim.holds_of_wide 3 Try.f3 rfl rfl rfl rfl rfl rfl rfl ⟨rfl, rfl, rfl, rfl, rfl⟩ rfl rfl rfl rfl rfl (by kernel_rfl) Try.func3 (by kernel_rfl)
    (of_decide_eq_true (by kernel_rfl)) (by unfold Func.isWrapper; rw [if_neg (of_decide_eq_false (by kernel_rfl))]; exact ⟨rfl, rfl⟩)
    (fun os started H enc _ => mullerSizes_lifted os started H enc)

#print axioms mullerSizes_holds

end Go.Proofs.Ytakojkekelhobaa
