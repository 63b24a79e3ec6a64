/-
  Products do not hang on order and brackets, and a product with a sum is the sum of products: FieldLaws returns true for every three numbers, and changes nothing.
-/
import Derived.Test.YtllkfadghdnhhaaOpen
import Derived.Test.YtllkfadghdnhhaaFac
import Derived.ProofKit
namespace Go.Proofs.Ytllkfadghdnhhaa
open Go.ChangeShapes Go.WideShapes Go.ChangeAt Go.RowKit Go.Deep
set_option linter.unusedVariables false

theorem i64_of {x : Int} (h : (Lit.int .i64 x).wf = true) : -9223372036854775808 ≤ x ∧ x ≤ 9223372036854775807 := by
  have b : IntKind.i64.min = -9223372036854775808 ∧ IntKind.i64.max = 9223372036854775807 := by decide
  simp only [Lit.wf, b, Bool.and_eq_true, decide_eq_true_eq] at h
  omega

theorem num_row (z : List Int) (hm : z.length ≤ maxLen) (w : World) : Calls Try.prog 18 #[.slice (some ⟨w.heap.size, 0, none⟩) z.length z.length] (w.alloc (.cells (z.map (Value.int .i64)).toArray 3)) fun e w' =>
    e = .returned (.bool (fe z == 0)) ∧ w' = w.alloc (.cells (z.map (Value.int .i64)).toArray 3) := numbers_row z hm w

theorem fieldLaws_part (a b : Nat) (c : Int) (ha : a < 16) (hb : b < 16) (h : fe [(a : Int), b, c] ≠ 0) (w : World) : Calls Try.prog 7 #[.int .i64 a, .int .i64 b, .int .i64 c] w fun e w' => e = .returned (.bool true) ∧ Ext w w' := by
  have c1 := Mul_good a b ha hb w
  have hz : (fe [(a : Int), b, c] == 0) = false := beq_eq_false_iff_ne.2 h
  have c3 : Hid (∀ W : World, Calls Try.prog 18 #[.slice (some ⟨W.heap.size, 0, none⟩) 3 3] (W.alloc (.cells #[.int .i64 a, .int .i64 b, .int .i64 c] 3)) fun e w' => e = .returned (.bool false) ∧ w' = W.alloc (.cells #[.int .i64 a, .int .i64 b, .int .i64 c] 3)) := fun W => by
    have := num_row [(a : Int), b, c] (by simp [maxLen]) W
    rw [hz] at this
    exact this
  have c2 : Hid (∀ W : World, Calls Try.prog 18 #[.slice (some ⟨W.heap.size, 0, none⟩) 2 2] (W.alloc (.cells #[.int .i64 a, .int .i64 b] 3)) fun e w' => e = .returned (.bool true) ∧ w' = W.alloc (.cells #[.int .i64 a, .int .i64 b] 3)) := fun W => by
    have := num_row [(a : Int), b] (by simp [maxLen]) W
    rw [fe_good (by intro x hx; simp at hx; omega)] at this
    exact this
  clear h hz
  generalize gm a b = G at *
  go_enter Try.func7, Try.ntmps7
  go_wp2_with fail
  refine c1.mono ?_
  rintro e w1 ⟨rfl, F1⟩
  have E1 : Hid (Ext w w1) := F1
  have k3 := c3.out w1
  clear c1 F1 c3
  go_wp2_with fail
  refine k3.mono ?_
  rintro e w' ⟨rfl, rfl⟩
  clear k3
  obtain ⟨w2, hw2⟩ : ∃ W, w1.alloc (.cells #[.int .i64 a, .int .i64 b, .int .i64 c] 3) = W := ⟨_, rfl⟩
  have E2 : Hid (Ext w w2) := by rw [← hw2]; exact E1.out.alloc _
  rw [hw2]
  clear hw2 E1
  have k2 := c2.out w2
  clear c2
  go_wp2_with fail
  refine k2.mono ?_
  rintro e w' ⟨rfl, rfl⟩
  clear k2
  have E3 : Hid (Ext w (w2.alloc (.cells #[.int .i64 a, .int .i64 b] 3))) := E2.out.alloc _
  go_wp2
  go_ret
  exact ⟨rfl, E3.out⟩

theorem fieldLaws_bad (a b c : Int) (h : fe [a, b] ≠ 0) (h3 : fe [a, b, c] ≠ 0) (w : World) : Calls Try.prog 7 #[.int .i64 a, .int .i64 b, .int .i64 c] w fun e w' => e = .returned (.bool true) ∧ Ext w w' := by
  have c1 := Mul_bad a b h w
  have hz : (fe [a, b, c] == 0) = false := beq_eq_false_iff_ne.2 h3
  have hy : (fe [a, b] == 0) = false := beq_eq_false_iff_ne.2 h
  have c3 : Hid (∀ W : World, Calls Try.prog 18 #[.slice (some ⟨W.heap.size, 0, none⟩) 3 3] (W.alloc (.cells #[.int .i64 a, .int .i64 b, .int .i64 c] 3)) fun e w' => e = .returned (.bool false) ∧ w' = W.alloc (.cells #[.int .i64 a, .int .i64 b, .int .i64 c] 3)) := fun W => by
    have := num_row [a, b, c] (by simp [maxLen]) W
    rw [hz] at this
    exact this
  have c2 : Hid (∀ W : World, Calls Try.prog 18 #[.slice (some ⟨W.heap.size, 0, none⟩) 2 2] (W.alloc (.cells #[.int .i64 a, .int .i64 b] 3)) fun e w' => e = .returned (.bool false) ∧ w' = W.alloc (.cells #[.int .i64 a, .int .i64 b] 3)) := fun W => by
    have := num_row [a, b] (by simp [maxLen]) W
    rw [hy] at this
    exact this
  have hx : (fe [a, b] != 0) = true := bne_iff_ne.2 h
  clear h h3 hz hy
  generalize fe [a, b] = X at *
  go_enter Try.func7, Try.ntmps7
  go_wp2_with fail
  refine c1.mono ?_
  rintro e w1 ⟨rfl, F1⟩
  have E1 : Hid (Ext w w1) := F1
  have k3 := c3.out w1
  clear c1 F1 c3
  go_wp2_with fail
  refine k3.mono ?_
  rintro e w' ⟨rfl, rfl⟩
  clear k3
  obtain ⟨w2, hw2⟩ : ∃ W, w1.alloc (.cells #[.int .i64 a, .int .i64 b, .int .i64 c] 3) = W := ⟨_, rfl⟩
  have E2 : Hid (Ext w w2) := by rw [← hw2]; exact E1.out.alloc _
  rw [hw2]
  clear hw2 E1
  have k2 := c2.out w2
  clear c2
  go_wp2_with fail
  refine k2.mono ?_
  rintro e w' ⟨rfl, rfl⟩
  clear k2
  have E3 : Hid (Ext w (w2.alloc (.cells #[.int .i64 a, .int .i64 b] 3))) := E2.out.alloc _
  go_wp2
  go_ret
  exact ⟨rfl, E3.out⟩

set_option maxRecDepth 100000 in
theorem fieldLaws_good (a b c : Nat) (ha : a < 16) (hb : b < 16) (hc : c < 16) (w : World) : Calls Try.prog 7 #[.int .i64 a, .int .i64 b, .int .i64 c] w fun e w' => e = .returned (.bool true) ∧ Ext w w' := by
  have lab := gm_lt ha hb
  have lbc := gm_lt hb hc
  have lac := gm_lt ha hc
  have lx := xor_lt hb hc
  have xe := xor_at (a := b) (b := c) (by omega) (by omega)
  have ze := xor_at (a := gm a b) (b := gm a c) (by omega) (by omega)
  have c1 := Mul_good a b ha hb w
  have c2 : Hid (∀ W : World, Calls Try.prog 9 #[.int .i64 b, .int .i64 a] W fun e w' => e = .returned (.tuple #[.int .i64 (gm a b : Nat), .int .i64 0]) ∧ Ext W w') := fun W => by rw [gm_comm ha hb]; exact Mul_good b a hb ha W
  have c3 : Hid (∀ W : World, Calls Try.prog 9 #[.int .i64 b, .int .i64 c] W fun e w' => e = .returned (.tuple #[.int .i64 (gm b c : Nat), .int .i64 0]) ∧ Ext W w') := fun W => Mul_good b c hb hc W
  have c4 : Hid (∀ W : World, Calls Try.prog 9 #[.int .i64 (gm a b : Nat), .int .i64 c] W fun e w' => e = .returned (.tuple #[.int .i64 (gm (gm a b) c : Nat), .int .i64 0]) ∧ Ext W w') := fun W => Mul_good _ c lab hc W
  have c5 : Hid (∀ W : World, Calls Try.prog 9 #[.int .i64 a, .int .i64 (gm b c : Nat)] W fun e w' => e = .returned (.tuple #[.int .i64 (gm (gm a b) c : Nat), .int .i64 0]) ∧ Ext W w') := fun W => by rw [gm_assoc ha hb hc]; exact Mul_good a _ ha lbc W
  have c6 : Hid (∀ W : World, Calls Try.prog 9 #[.int .i64 a, .int .i64 c] W fun e w' => e = .returned (.tuple #[.int .i64 (gm a c : Nat), .int .i64 0]) ∧ Ext W w') := fun W => Mul_good a c ha hc W
  have c7 : Hid (∀ W : World, Calls Try.prog 9 #[.int .i64 a, .int .i64 (b ^^^ c : Nat)] W fun e w' => e = .returned (.tuple #[.int .i64 (gm a b ^^^ gm a c : Nat), .int .i64 0]) ∧ Ext W w') := fun W => by rw [← gm_xor ha hb hc]; exact Mul_good a _ ha lx W
  have c8 : Hid (∀ W : World, Calls Try.prog 9 #[.int .i64 1, .int .i64 a] W fun e w' => e = .returned (.tuple #[.int .i64 a, .int .i64 0]) ∧ Ext W w') := fun W => by have := Mul_good 1 a (by omega) ha W; rw [gm_one ha] at this; exact this
  have c0 : Hid (∀ W : World, Calls Try.prog 18 #[.slice (some ⟨W.heap.size, 0, none⟩) 3 3] (W.alloc (.cells #[.int .i64 a, .int .i64 b, .int .i64 c] 3)) fun e w' => e = .returned (.bool true) ∧ w' = W.alloc (.cells #[.int .i64 a, .int .i64 b, .int .i64 c] 3)) := fun W => by
    have := num_row [(a : Int), b, c] (by simp [maxLen]) W
    rw [fe_good (by intro x hx; simp at hx; omega)] at this
    exact this
  generalize gm a b ^^^ gm a c = Z at *
  generalize b ^^^ c = Y at *
  generalize gm (gm a b) c = X at *
  generalize gm a b = G at *
  generalize gm b c = H at *
  generalize gm a c = K at *
  clear lab lbc lac lx ha hb hc
  go_enter Try.func7, Try.ntmps7
  go_wp2_with fail
  refine c1.mono ?_
  rintro e w1 ⟨rfl, F1⟩
  have E1 : Hid (Ext w w1) := F1
  have k0 := c0.out w1
  clear c1 F1 c0
  go_wp2_with fail
  refine k0.mono ?_
  rintro e w' ⟨rfl, rfl⟩
  clear k0
  obtain ⟨w2, hw2⟩ : ∃ W, w1.alloc (.cells #[.int .i64 a, .int .i64 b, .int .i64 c] 3) = W := ⟨_, rfl⟩
  have E2 : Hid (Ext w w2) := by rw [← hw2]; exact E1.out.alloc _
  rw [hw2]
  clear hw2 E1
  have k3 := c2.out w2
  clear c2
  go_wp2_with fail
  refine k3.mono ?_
  rintro e w3 ⟨rfl, F3⟩
  have E3 : Hid (Ext w w3) := E2.out.trans F3
  clear k3 F3 E2
  have k4 := c3.out w3
  clear c3
  go_wp2_with fail
  refine k4.mono ?_
  rintro e w4 ⟨rfl, F4⟩
  have E4 : Hid (Ext w w4) := E3.out.trans F4
  clear k4 F4 E3
  have k5 := c4.out w4
  clear c4
  go_wp2_with fail
  refine k5.mono ?_
  rintro e w5 ⟨rfl, F5⟩
  have E5 : Hid (Ext w w5) := E4.out.trans F5
  clear k5 F5 E4
  have k6 := c5.out w5
  clear c5
  go_wp2_with fail
  refine k6.mono ?_
  rintro e w6 ⟨rfl, F6⟩
  have E6 : Hid (Ext w w6) := E5.out.trans F6
  clear k6 F6 E5
  have k7 := c6.out w6
  clear c6
  go_wp2_with fail
  refine k7.mono ?_
  rintro e w7 ⟨rfl, F7⟩
  have E7 : Hid (Ext w w7) := E6.out.trans F7
  clear k7 F7 E6
  have k8 := c7.out w7
  clear c7
  go_wp2_with fail
  refine k8.mono ?_
  rintro e w8 ⟨rfl, F8⟩
  have E8 : Hid (Ext w w8) := E7.out.trans F8
  clear k8 F8 E7
  have k9 := c8.out w8
  clear c8
  go_wp2_with fail
  refine k9.mono ?_
  rintro e w9 ⟨rfl, F9⟩
  have E9 : Hid (Ext w w9) := E8.out.trans F9
  clear k9 F9 E8
  go_wp2
  go_ret
  exact ⟨rfl, E9.out⟩

theorem fieldLaws_walk (a b c : Int) (w : World) : Calls Try.prog 7 #[.int .i64 a, .int .i64 b, .int .i64 c] w fun e w' => e = .returned (.bool true) ∧ Ext w w' := by
  by_cases h3 : fe [a, b, c] = 0
  · have h2 := fe_zero h3
    have l1 := h2 a (by simp)
    have l2 := h2 b (by simp)
    have l3 := h2 c (by simp)
    obtain ⟨m, rfl⟩ : ∃ m : Nat, a = m := ⟨a.toNat, by omega⟩
    obtain ⟨n, rfl⟩ : ∃ n : Nat, b = n := ⟨b.toNat, by omega⟩
    obtain ⟨k, rfl⟩ : ∃ n : Nat, c = n := ⟨c.toNat, by omega⟩
    exact fieldLaws_good m n k (by omega) (by omega) (by omega) w
  · by_cases h : fe [a, b] = 0
    · have h2 := fe_zero h
      have l1 := h2 a (by simp)
      have l2 := h2 b (by simp)
      obtain ⟨m, rfl⟩ : ∃ m : Nat, a = m := ⟨a.toNat, by omega⟩
      obtain ⟨n, rfl⟩ : ∃ n : Nat, b = n := ⟨b.toNat, by omega⟩
      exact fieldLaws_part m n c (by omega) (by omega) h3 w
    · exact fieldLaws_bad a b c h h3 w

set_option maxRecDepth 100000 in
theorem fieldLaws_lifted (os : Os) (started : os.Started) (H : Type) (enc : TypeId × Value → H) :
    ReturnsInHanded {} Try.checked os 7 .any (Rows.fieldLawsSpec.pre6 enc Try.prog Try.f7 Rows.fieldLawsRow.domain false) (Rows.fieldLawsSpec.post enc Try.prog Try.f7 false true false false) := by
  refine returnsInHanded_of_change (C := Try.checked) own started (by kernel_rfl) Try.func7
    (ChangeSpec.witness6 (enc := enc) (C := Try.checked) false ⟨#[], #[.int .i64 0, .int .i64 0, .int .i64 0], []⟩ 8 (by kernel_rfl) (by kernel_rfl) (by kernel_rfl) (by kernel_rfl)) ?_
  intro W base args ds gs before hval0 hW _ _
  have hval : ∀ (j : Nat) t v, Try.f7.params[j]? = some t → args[j]? = some v → Value.okWide Try.prog W .any base t v := hval0
  have hW' := hW
  obtain ⟨p, q, hA0, hV, rfl, hfz, hnd⟩ := hW
  have hA : DataW.TrodAll enc Try.prog W 0 (fun _ => true) true Try.f7.params.toList args.toList ds p := hA0
  rw [Try.params7] at hA hval
  obtain ⟨v0, vs0, d0, ds0, p0, q0, hargs, rfl, rfl, h0, r0⟩ := trodAll_cons hA
  obtain ⟨v1, vs1, d1, ds1, p1, q1, rfl, rfl, rfl, h1, r1⟩ := trodAll_cons r0
  obtain ⟨v2, vs2, d2, ds2, p2, q2, rfl, rfl, rfl, h2, r2⟩ := trodAll_cons r1
  obtain ⟨rfl, rfl, rfl⟩ := trodAll_nil r2
  obtain rfl : args = #[v0, v1, v2] := by cases args; simp_all
  obtain ⟨rfl, rfl⟩ := trodVars_none hV
  have lt0 : ∀ x ∈ p0, x.block < W.heap.size := by obtain ⟨m, hm⟩ := h0; exact DataW.trod_lt m _ _ _ hm
  obtain ⟨x0, rfl, -, -, wf0⟩ := open_int Try.underlying3 (hval 0 3 v0 rfl rfl) h0
  have lt1 : ∀ x ∈ p1, x.block < W.heap.size := by obtain ⟨m, hm⟩ := h1; exact DataW.trod_lt m _ _ _ hm
  obtain ⟨x1, rfl, -, -, wf1⟩ := open_int Try.underlying3 (hval 1 3 v1 rfl rfl) h1
  have lt2 : ∀ x ∈ p2, x.block < W.heap.size := by obtain ⟨m, hm⟩ := h2; exact DataW.trod_lt m _ _ _ hm
  obtain ⟨x2, rfl, -, -, wf2⟩ := open_int Try.underlying3 (hval 2 3 v2 rfl rfl) h2
  clear hA0 hval0
  refine (fieldLaws_walk x0 x1 x2 W).mono fun e W' ⟨he, bel⟩ => ?_
  subst he
  exact ⟨_, rfl, _, _, _, [], _, [], hW', trodAll_mk1 (shut_bool Try.underlying4 _), (trodAll_cons_mk (Below.trod laidOut (by kernel_rfl) (of_decide_eq_true (by kernel_rfl)) h0 bel lt0) (trodAll_cons_mk (Below.trod laidOut (by kernel_rfl) (of_decide_eq_true (by kernel_rfl)) h1 bel lt1) (trodAll_cons_mk (Below.trod laidOut (by kernel_rfl) (of_decide_eq_true (by kernel_rfl)) h2 bel lt2) trodAll_mk0))), rfl, bel.frame _, fun h => by cases h⟩

theorem fieldLaws_holds : Rows.FieldLawsSaid :=
  OpenClaim.holds_of_wide 7 Try.f7 rfl rfl rfl rfl rfl rfl rfl ⟨rfl, rfl, rfl, rfl, rfl⟩ rfl rfl rfl rfl rfl (by kernel_rfl) Try.func7 (by kernel_rfl)
    (of_decide_eq_true (by kernel_rfl)) (by unfold Func.isWrapper; rw [if_neg (of_decide_eq_false (by kernel_rfl))]; exact ⟨rfl, rfl⟩)
    (fun os started H enc _ => fieldLaws_lifted os started H enc)

#print axioms fieldLaws_holds

end Go.Proofs.Ytllkfadghdnhhaa
