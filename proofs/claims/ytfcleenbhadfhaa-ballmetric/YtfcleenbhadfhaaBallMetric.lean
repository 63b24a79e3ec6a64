/-
  For any three words: it is as far there as back; nobody else is at no distance; a detour is no shorter; what is turned in both changes nothing: BallMetric returns true for every number and every three words, and changes nothing.
-/
import Derived.Test.YtfcleenbhadfhaaOpen
import Derived.Test.YtfcleenbhadfhaaCw
namespace Go.Proofs.Ytfcleenbhadfhaa
open Go.ChangeShapes Go.WideShapes Go.ChangeAt Go.RowKit Go.Deep
set_option linter.unusedVariables false

theorem dist_any (n : Int) (a b : Nat) (ha : a < 4294967296) (hb : b < 4294967296) (w : World) : Calls Try.prog 9 #[.int .i64 n, .int .u32 a, .int .u32 b] w fun e w' => ∃ d : Int, e = .returned (.tuple #[.int .i64 d, .int .i64 (ce n [a, b])]) ∧ Ext w w' := by
  by_cases h : ce n [a, b] = 0
  · rw [h]
    obtain ⟨m, rfl, hm, hg⟩ := ce_zero h
    exact (dist_good m a b hm (hg a (by simp)) (hg b (by simp)) w).mono fun e w' ⟨h1, h2⟩ => ⟨_, h1, h2⟩
  · exact (dist_bad n a b ha hb h w).mono fun e w' ⟨h1, h2⟩ => ⟨_, h1, h2⟩

theorem ballMetric_bad (n : Int) (a b c : Nat) (ha : a < 4294967296) (hb : b < 4294967296) (hc : c < 4294967296) (h : ce n [a, b, c] ≠ 0) (w : World) : Calls Try.prog 6 #[.int .i64 n, .int .u32 a, .int .u32 b, .int .u32 c] w fun e w' => e = .returned (.bool true) ∧ Ext w w' := by
  have c1 := dist_any n a b ha hb w
  have hf : (ce n [a, b, c] == 0) = false := by rw [beq_eq_false_iff_ne]; exact h
  have c2 : Hid (∀ W : World, Calls Try.prog 17 #[.int .i64 n, .slice (some ⟨W.heap.size, 0, none⟩) 3 3] (W.alloc (.cells #[.int .u32 a, .int .u32 b, .int .u32 c] 22)) fun e w' => e = .returned (.bool false) ∧ Ext W w') := fun W =>
    (refBelow_any n [a, b, c] (by simp) (fun x hx => by simp at hx; omega) W.heap.size 3 _ (heap_alloc_new _ _)).mono fun e w' ⟨h1, h2⟩ => ⟨by rw [h1, hf], by rw [h2]; exact (Ext.refl W).alloc _⟩
  have c3 : Hid (∀ W : World, Calls Try.prog 17 #[.int .i64 n, .slice (some ⟨W.heap.size, 0, none⟩) 2 2] (W.alloc (.cells #[.int .u32 a, .int .u32 b] 22)) fun e w' => e = .returned (.bool (ce n [a, b] == 0)) ∧ Ext W w') := fun W =>
    (refBelow_any n [a, b] (by simp) (fun x hx => by simp at hx; omega) W.heap.size 2 _ (heap_alloc_new _ _)).mono fun e w' ⟨h1, h2⟩ => ⟨h1, by rw [h2]; exact (Ext.refl W).alloc _⟩
  clear h hf
  have two : Hid (((!(ce n [a, b] == 0)) == (ce n [a, b] != 0)) = true) := beq_self_eq_true _
  generalize ce n [a, b] = X at *
  go_enter Try.func6, Try.ntmps6
  go_wp2_with fail
  refine c1.mono ?_
  rintro e w1 ⟨d, rfl, h1⟩
  have E1 : Hid (Ext w w1) := h1
  clear c1 h1
  go_wp2_with fail
  refine (c2.out w1).mono ?_
  rintro e w2 ⟨rfl, h2⟩
  have E2 : Hid (Ext w w2) := E1.out.trans h2
  clear c2 h2
  go_wp2_with fail
  refine (c3.out w2).mono ?_
  rintro e w3 ⟨rfl, h3⟩
  have E3 : Hid (Ext w w3) := E2.out.trans h3
  clear c3 h3
  go_wp2
  go_ret
  exact ⟨ret_bool two.out, E3.out⟩

theorem ballMetric_good (n a b c : Nat) (hn : n ≤ 12) (ha : a < 2 ^ n) (hb : b < 2 ^ n) (hc : c < 2 ^ n) (w : World) : Calls Try.prog 6 #[.int .i64 n, .int .u32 a, .int .u32 b, .int .u32 c] w fun e w' => e = .returned (.bool true) ∧ Ext w w' := by
  have hM : 2 ^ n ≤ 2 ^ 12 := Nat.pow_le_pow_right (by omega) hn
  have D : Hid (∀ (x y : Nat) W, x < 2 ^ n → y < 2 ^ n → Calls Try.prog 9 #[.int .i64 n, .int .u32 x, .int .u32 y] W fun e w' => e = .returned (.tuple #[.int .i64 (far x y : Nat), .int .i64 0]) ∧ Ext W w') := fun x y W hx hy => dist_good n x y hn hx hy W
  have c1 := D.out a b w ha hb
  have c2 : Hid (∀ W : World, Calls Try.prog 17 #[.int .i64 n, .slice (some ⟨W.heap.size, 0, none⟩) 3 3] (W.alloc (.cells #[.int .u32 a, .int .u32 b, .int .u32 c] 22)) fun e w' => e = .returned (.bool true) ∧ Ext W w') := fun W =>
    (refBelow_any n [a, b, c] (by simp) (fun x hx => by simp at hx; omega) W.heap.size 3 _ (heap_alloc_new _ _)).mono fun e w' ⟨h1, h2⟩ => ⟨by rw [h1, ce_good hn (fun x hx => by simp at hx; rcases hx with rfl | rfl | rfl <;> assumption)]; rfl, by rw [h2]; exact (Ext.refl W).alloc _⟩
  have c3 : Hid (∀ W, Calls Try.prog 9 #[.int .i64 n, .int .u32 b, .int .u32 a] W fun e w' => e = .returned (.tuple #[.int .i64 (far a b : Nat), .int .i64 0]) ∧ Ext W w') := fun W => by
    have := D.out b a W hb ha
    rw [far_comm b a] at this
    exact this
  have c4 : Hid (∀ W, Calls Try.prog 9 #[.int .i64 n, .int .u32 b, .int .u32 c] W fun e w' => e = .returned (.tuple #[.int .i64 (far b c : Nat), .int .i64 0]) ∧ Ext W w') := fun W => D.out b c W hb hc
  have c5 : Hid (∀ W, Calls Try.prog 9 #[.int .i64 n, .int .u32 a, .int .u32 c] W fun e w' => e = .returned (.tuple #[.int .i64 (far a c : Nat), .int .i64 0]) ∧ Ext W w') := fun W => D.out a c W ha hc
  have c6 : Hid (∀ W, Calls Try.prog 9 #[.int .i64 n, .int .u32 (a ^^^ c : Nat), .int .u32 (b ^^^ c : Nat)] W fun e w' => e = .returned (.tuple #[.int .i64 (far a b : Nat), .int .i64 0]) ∧ Ext W w') := fun W => by
    have := D.out (a ^^^ c) (b ^^^ c) W (Nat.xor_lt_two_pow ha hc) (Nat.xor_lt_two_pow hb hc)
    rw [far_same] at this
    exact this
  have x1 := u32_xor_nat a c (by omega) (by omega)
  have x2 := u32_xor_nat b c (by omega) (by omega)
  have tri := far_tri a b c
  have f1 := far_le32 a b
  have f2 := far_le32 b c
  have f3 := far_le32 a c
  have zr : far a b = 0 ↔ a = b := far_zero (by omega) (by omega)
  have zz : (((far a b : Int) == 0) == ((a : Int) == (b : Int))) = true := by
    by_cases e : a = b
    · rw [zr.2 e, e]; simp
    · have : far a b ≠ 0 := fun h => e (zr.1 h)
      rw [show ((far a b : Int) == 0) = false by rw [beq_eq_false_iff_ne]; omega, show ((a : Int) == (b : Int)) = false by rw [beq_eq_false_iff_ne]; omega]
      rfl
  have triz : ((far a c : Nat) : Int) ≤ (far a b : Nat) + (far b c : Nat) := by omega
  clear D hM zr tri ha hb hc
  generalize a ^^^ c = P at *
  generalize b ^^^ c = Q at *
  generalize far a b = AB at *
  generalize far b c = BC at *
  generalize far a c = AC at *
  go_enter Try.func6, Try.ntmps6
  go_wp2_with fail
  refine c1.mono ?_
  rintro e w1 ⟨rfl, h1⟩
  have E1 : Hid (Ext w w1) := h1
  clear c1 h1
  go_wp2_with fail
  refine (c2.out w1).mono ?_
  rintro e w2 ⟨rfl, h2⟩
  have E2 : Hid (Ext w w2) := E1.out.trans h2
  clear c2 h2
  go_wp2_with fail
  refine (c3.out w2).mono ?_
  rintro e w3 ⟨rfl, h3⟩
  have E3 : Hid (Ext w w3) := E2.out.trans h3
  clear c3 h3
  go_wp2_with fail
  refine (c4.out w3).mono ?_
  rintro e w4 ⟨rfl, h4⟩
  have E4 : Hid (Ext w w4) := E3.out.trans h4
  clear c4 h4
  go_wp2_with fail
  refine (c5.out w4).mono ?_
  rintro e w5 ⟨rfl, h5⟩
  have E5 : Hid (Ext w w5) := E4.out.trans h5
  clear c5 h5
  go_wp2_with fail
  refine (c6.out w5).mono ?_
  rintro e w6 ⟨rfl, h6⟩
  have E6 : Hid (Ext w w6) := E5.out.trans h6
  clear c6 h6 x1 x2
  go_wp2
  go_ret
  exact ⟨ret_bool (by simp), E6.out⟩

theorem ballMetric_int (n x y z : Int) (hx : (Lit.int .u32 x).wf = true) (hy : (Lit.int .u32 y).wf = true) (hz : (Lit.int .u32 z).wf = true) (w : World) : Calls Try.prog 6 #[.int .i64 n, .int .u32 x, .int .u32 y, .int .u32 z] w fun e w' => e = .returned (.bool true) ∧ Ext w w' := by
  have h := u32_in hx
  have h' := u32_in hy
  have h'' := u32_in hz
  obtain ⟨X, rfl⟩ : ∃ X : Nat, x = X := ⟨x.toNat, by omega⟩
  obtain ⟨Y, rfl⟩ : ∃ Y : Nat, y = Y := ⟨y.toNat, by omega⟩
  obtain ⟨Z, rfl⟩ : ∃ Z : Nat, z = Z := ⟨z.toNat, by omega⟩
  by_cases hc : ce n [X, Y, Z] = 0
  · obtain ⟨m, rfl, hm, hg⟩ := ce_zero hc
    exact ballMetric_good m X Y Z hm (hg X (by simp)) (hg Y (by simp)) (hg Z (by simp)) w
  · exact ballMetric_bad n X Y Z (by omega) (by omega) (by omega) hc w

set_option maxRecDepth 100000 in
theorem ballMetric_lifted (os : Os) (started : os.Started) (H : Type) (enc : TypeId × Value → H) :
    ReturnsInHanded {} Try.checked os 6 .any (Rows.ballMetricSpec.pre6 enc Try.prog Try.f6 Rows.ballMetricRow.domain false) (Rows.ballMetricSpec.post enc Try.prog Try.f6 false true false false) := by
  refine returnsInHanded_of_change (C := Try.checked) own started (by kernel_rfl) Try.func6
    (ChangeSpec.witness6 (enc := enc) (C := Try.checked) false ⟨#[], #[.int .i64 0, .int .u32 0, .int .u32 0, .int .u32 0], []⟩ 8 (by kernel_rfl) (by kernel_rfl) (by kernel_rfl) (by kernel_rfl)) ?_
  intro W base args ds gs before hval0 hW _ _
  have hval : ∀ (j : Nat) t v, Try.f6.params[j]? = some t → args[j]? = some v → Value.okWide Try.prog W .any base t v := hval0
  have hW' := hW
  obtain ⟨p, q, hA0, hV, rfl, hfz, hnd⟩ := hW
  have hA : DataW.TrodAll enc Try.prog W 0 (fun _ => true) true Try.f6.params.toList args.toList ds p := hA0
  rw [Try.params6] at hA hval
  obtain ⟨v0, vs0, d0, ds0, p0, q0, hargs, rfl, rfl, h0, r0⟩ := trodAll_cons hA
  obtain ⟨v1, vs1, d1, ds1, p1, q1, rfl, rfl, rfl, h1, r1⟩ := trodAll_cons r0
  obtain ⟨v2, vs2, d2, ds2, p2, q2, rfl, rfl, rfl, h2, r2⟩ := trodAll_cons r1
  obtain ⟨v3, vs3, d3, ds3, p3, q3, rfl, rfl, rfl, h3, r3⟩ := trodAll_cons r2
  obtain ⟨rfl, rfl, rfl⟩ := trodAll_nil r3
  obtain rfl : args = #[v0, v1, v2, v3] := by cases args; simp_all
  obtain ⟨rfl, rfl⟩ := trodVars_none hV
  have lt0 : ∀ x ∈ p0, x.block < W.heap.size := by obtain ⟨m, hm⟩ := h0; exact DataW.trod_lt m _ _ _ hm
  obtain ⟨x0, rfl, -, -, wf0⟩ := open_int Try.underlying3 (hval 0 3 v0 rfl rfl) h0
  have lt1 : ∀ x ∈ p1, x.block < W.heap.size := by obtain ⟨m, hm⟩ := h1; exact DataW.trod_lt m _ _ _ hm
  obtain ⟨x1, rfl, -, -, wf1⟩ := open_int Try.underlying22 (hval 1 22 v1 rfl rfl) h1
  have lt2 : ∀ x ∈ p2, x.block < W.heap.size := by obtain ⟨m, hm⟩ := h2; exact DataW.trod_lt m _ _ _ hm
  obtain ⟨x2, rfl, -, -, wf2⟩ := open_int Try.underlying22 (hval 2 22 v2 rfl rfl) h2
  have lt3 : ∀ x ∈ p3, x.block < W.heap.size := by obtain ⟨m, hm⟩ := h3; exact DataW.trod_lt m _ _ _ hm
  obtain ⟨x3, rfl, -, -, wf3⟩ := open_int Try.underlying22 (hval 3 22 v3 rfl rfl) h3
  clear hA0 hval0
  refine (ballMetric_int x0 x1 x2 x3 wf1 wf2 wf3 W).mono fun e W' ⟨he, bel⟩ => ?_
  subst he
  exact ⟨_, rfl, _, _, _, [], _, [], hW', trodAll_mk1 (shut_bool Try.underlying4 _), (trodAll_cons_mk (Below.trod laidOut (by kernel_rfl) (of_decide_eq_true (by kernel_rfl)) h0 bel lt0) (trodAll_cons_mk (Below.trod laidOut (by kernel_rfl) (of_decide_eq_true (by kernel_rfl)) h1 bel lt1) (trodAll_cons_mk (Below.trod laidOut (by kernel_rfl) (of_decide_eq_true (by kernel_rfl)) h2 bel lt2) (trodAll_cons_mk (Below.trod laidOut (by kernel_rfl) (of_decide_eq_true (by kernel_rfl)) h3 bel lt3) trodAll_mk0)))), rfl, bel.frame _, fun h => by cases h⟩

theorem ballMetric_holds : Rows.BallMetricSaid :=
  OpenClaim.holds_of_wide 6 Try.f6 rfl rfl rfl rfl rfl rfl rfl ⟨rfl, rfl, rfl, rfl, rfl⟩ rfl rfl rfl rfl rfl (by kernel_rfl) Try.func6 (by kernel_rfl)
    (of_decide_eq_true (by kernel_rfl)) (by unfold Func.isWrapper; rw [if_neg (of_decide_eq_false (by kernel_rfl))]; exact ⟨rfl, rfl⟩)
    (fun os started H enc _ => ballMetric_lifted os started H enc)

#print axioms ballMetric_holds

end Go.Proofs.Ytfcleenbhadfhaa
