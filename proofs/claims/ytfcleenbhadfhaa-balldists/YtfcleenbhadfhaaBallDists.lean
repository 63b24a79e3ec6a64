/-
  For any two words: ball.Dist tells how far they are apart: BallDists returns true for every number and every two words, and changes nothing.
-/
import Derived.Test.YtfcleenbhadfhaaOpen
import Derived.Test.YtfcleenbhadfhaaCw
namespace Go.Proofs.Ytfcleenbhadfhaa
open Go.ChangeShapes Go.WideShapes Go.ChangeAt Go.RowKit Go.Deep
set_option linter.unusedVariables false

theorem ballDists_walk (n : Int) (a b : Nat) (ha : a < 4294967296) (hb : b < 4294967296) (w : World) : Calls Try.prog 3 #[.int .i64 n, .int .u32 a, .int .u32 b] w fun e w' => e = .returned (.bool true) ∧ Ext w w' := by
  have c2 : Hid (∀ W : World, Calls Try.prog 10 #[.int .i64 n, .slice (some ⟨W.heap.size, 0, none⟩) 2 2] (W.alloc (.cells #[.int .u32 a, .int .u32 b] 22)) fun e w' => e = .returned (.int .i64 (ce n [a, b])) ∧ Ext W w') := fun W =>
    (refBits_any n [a, b] (by simp) (fun x hx => by simp at hx; omega) W.heap.size 2 _ (heap_alloc_new _ _)).mono fun e w' ⟨h1, h2⟩ => ⟨h1, by rw [h2]; exact (Ext.refl W).alloc _⟩
  by_cases h : ce n [a, b] = 0
  · rw [h] at c2
    obtain ⟨m, rfl, hm, hg⟩ := ce_zero h
    have c1 := dist_good m a b hm (hg a (by simp)) (hg b (by simp)) w
    have c3 : Hid (∀ W, Calls Try.prog 11 #[.int .u32 a, .int .u32 b] W fun e w' => e = .returned (.int .i64 (far a b : Nat)) ∧ w' = W) := fun W => refApart_any a b ha hb W
    clear h hg
    generalize far a b = F at *
    go_enter Try.func3, Try.ntmps3
    go_wp2_with fail
    refine c1.mono ?_
    rintro e w1 ⟨rfl, h1⟩
    have E1 : Hid (Ext w w1) := h1
    clear c1 h1
    go_wp2_with fail
    refine (c2.out w1).mono ?_
    rintro e w2 ⟨rfl, h2⟩
    have E2 : Hid (Ext w w2) := E1.out.trans h2
    clear c2 h2
    go_wp2_with fail
    refine (c3.out w2).mono ?_
    rintro e w3 ⟨rfl, rfl⟩
    clear c3
    go_wp2
    go_ret
    exact ⟨ret_bool (by simp), E2.out⟩
  · have c1 := dist_bad n a b ha hb h w
    have hz : (ce n [a, b] != 0) = true := by rw [bne_iff_ne]; exact h
    clear h
    generalize ce n [a, b] = X at *
    go_enter Try.func3, Try.ntmps3
    go_wp2_with fail
    refine c1.mono ?_
    rintro e w1 ⟨rfl, h1⟩
    have E1 : Hid (Ext w w1) := h1
    clear c1 h1
    go_wp2_with fail
    refine (c2.out w1).mono ?_
    rintro e w2 ⟨rfl, h2⟩
    have E2 : Hid (Ext w w2) := E1.out.trans h2
    clear c2 h2
    go_wp2
    go_ret
    exact ⟨ret_bool (by simp), E2.out⟩

theorem ballDists_int (n x y : Int) (hx : (Lit.int .u32 x).wf = true) (hy : (Lit.int .u32 y).wf = true) (w : World) : Calls Try.prog 3 #[.int .i64 n, .int .u32 x, .int .u32 y] w fun e w' => e = .returned (.bool true) ∧ Ext w w' := by
  have h := u32_in hx
  have h' := u32_in hy
  obtain ⟨X, rfl⟩ : ∃ X : Nat, x = X := ⟨x.toNat, by omega⟩
  obtain ⟨Y, rfl⟩ : ∃ Y : Nat, y = Y := ⟨y.toNat, by omega⟩
  exact ballDists_walk n X Y (by omega) (by omega) w

set_option maxRecDepth 100000 in
theorem ballDists_lifted (os : Os) (started : os.Started) (H : Type) (enc : TypeId × Value → H) :
    ReturnsInHanded {} Try.checked os 3 .any (Rows.ballDistsSpec.pre6 enc Try.prog Try.f3 Rows.ballDistsRow.domain false) (Rows.ballDistsSpec.post enc Try.prog Try.f3 false true false false) := by
  refine returnsInHanded_of_change (C := Try.checked) own started (by kernel_rfl) Try.func3
    (ChangeSpec.witness6 (enc := enc) (C := Try.checked) false ⟨#[], #[.int .i64 0, .int .u32 0, .int .u32 0], []⟩ 8 (by kernel_rfl) (by kernel_rfl) (by kernel_rfl) (by kernel_rfl)) ?_
  intro W base args ds gs before hval0 hW _ _
  have hval : ∀ (j : Nat) t v, Try.f3.params[j]? = some t → args[j]? = some v → Value.okWide Try.prog W .any base t v := hval0
  have hW' := hW
  obtain ⟨p, q, hA0, hV, rfl, hfz, hnd⟩ := hW
  have hA : DataW.TrodAll enc Try.prog W 0 (fun _ => true) true Try.f3.params.toList args.toList ds p := hA0
  rw [Try.params3] at hA hval
  obtain ⟨v0, vs0, d0, ds0, p0, q0, hargs, rfl, rfl, h0, r0⟩ := trodAll_cons hA
  obtain ⟨v1, vs1, d1, ds1, p1, q1, rfl, rfl, rfl, h1, r1⟩ := trodAll_cons r0
  obtain ⟨v2, vs2, d2, ds2, p2, q2, rfl, rfl, rfl, h2, r2⟩ := trodAll_cons r1
  obtain ⟨rfl, rfl, rfl⟩ := trodAll_nil r2
  obtain rfl : args = #[v0, v1, v2] := by cases args; simp_all
  obtain ⟨rfl, rfl⟩ := trodVars_none hV
  have lt0 : ∀ x ∈ p0, x.block < W.heap.size := by obtain ⟨m, hm⟩ := h0; exact DataW.trod_lt m _ _ _ hm
  obtain ⟨x0, rfl, -, -, wf0⟩ := open_int Try.underlying3 (hval 0 3 v0 rfl rfl) h0
  have lt1 : ∀ x ∈ p1, x.block < W.heap.size := by obtain ⟨m, hm⟩ := h1; exact DataW.trod_lt m _ _ _ hm
  obtain ⟨x1, rfl, -, -, wf1⟩ := open_int Try.underlying22 (hval 1 22 v1 rfl rfl) h1
  have lt2 : ∀ x ∈ p2, x.block < W.heap.size := by obtain ⟨m, hm⟩ := h2; exact DataW.trod_lt m _ _ _ hm
  obtain ⟨x2, rfl, -, -, wf2⟩ := open_int Try.underlying22 (hval 2 22 v2 rfl rfl) h2
  clear hA0 hval0
  refine (ballDists_int x0 x1 x2 wf1 wf2 W).mono fun e W' ⟨he, bel⟩ => ?_
  subst he
  exact ⟨_, rfl, _, _, _, [], _, [], hW', trodAll_mk1 (shut_bool Try.underlying4 _), (trodAll_cons_mk (Below.trod laidOut (by kernel_rfl) (of_decide_eq_true (by kernel_rfl)) h0 bel lt0) (trodAll_cons_mk (Below.trod laidOut (by kernel_rfl) (of_decide_eq_true (by kernel_rfl)) h1 bel lt1) (trodAll_cons_mk (Below.trod laidOut (by kernel_rfl) (of_decide_eq_true (by kernel_rfl)) h2 bel lt2) trodAll_mk0))), rfl, bel.frame _, fun h => by cases h⟩

theorem ballDists_holds : Rows.BallDistsSaid :=
  OpenClaim.holds_of_wide 3 Try.f3 rfl rfl rfl rfl rfl rfl rfl ⟨rfl, rfl, rfl, rfl, rfl⟩ rfl rfl rfl rfl rfl (by kernel_rfl) Try.func3 (by kernel_rfl)
    (of_decide_eq_true (by kernel_rfl)) (by unfold Func.isWrapper; rw [if_neg (of_decide_eq_false (by kernel_rfl))]; exact ⟨rfl, rfl⟩)
    (fun os started H enc _ => ballDists_lifted os started H enc)

#print axioms ballDists_holds

end Go.Proofs.Ytfcleenbhadfhaa
