/-
  For any two numbers: book.Grow tells the book that grows word by word, or what is wrong: BookGrows returns true for every two numbers, and changes nothing.
-/
import Derived.Test.YtfcleenbhadfhabOpen
import Derived.Test.YtfcleenbhadfhabGn
import Derived.Test.YtfcleenbhadfhabWo
namespace Go.Proofs.Ytfcleenbhadfhab
open Go.ChangeShapes Go.WideShapes Go.ChangeAt Go.RowKit Go.Deep
set_option linter.unusedVariables false

theorem ce_nil (n : Int) : ce n [] = ber n := by
  unfold ce ber
  split
  · exact if_pos (fun x hx => by cases hx)
  · rfl

theorem bookGrows_bits (n d : Int) (h : ce n [] ≠ 0) (w : World) : Calls Try.prog 5 #[.int .i64 n, .int .i64 d] w fun e w' => e = .returned (.bool true) ∧ Ext w w' := by
  have c1 := grow_bits n d h w
  have c2 : Hid (∀ W, Calls Try.prog 13 #[.int .i64 n, .slice none 0 0] W fun e w' => e = .returned (.int .i64 (ce n [])) ∧ w' = W) := fun W => by rw [ce_nil]; exact bitsNil_any n W
  have hz : (ce n [] != 0) = true := by rw [bne_iff_ne]; exact h
  have hz' : (ce n [] == 0) = false := by rw [beq_eq_false_iff_ne]; exact h
  clear h
  generalize ce n [] = R at *
  go_enter Try.func5, Try.ntmps5
  go_wp2_with fail
  refine c1.mono ?_
  rintro e w1 ⟨rfl, E1⟩
  have X1 : Aside (Ext w w1) := E1
  clear c1 E1
  go_wp2_with fail
  refine (c2.out w1).mono ?_
  rintro e w2 ⟨rfl, rfl⟩
  clear c2
  go_wp2
  go_ret
  exact ⟨ret_bool (by simp), X1.out⟩

theorem bookGrows_range (n : Nat) (hn : n ≤ 12) (d : Int) (h : d < 1 ∨ (n : Int) < d) (w : World) : Calls Try.prog 5 #[.int .i64 n, .int .i64 d] w fun e w' => e = .returned (.bool true) ∧ Ext w w' := by
  have c1 := grow_range n hn d h w
  have c2 : Hid (∀ W, Calls Try.prog 13 #[.int .i64 n, .slice none 0 0] W fun e w' => e = .returned (.int .i64 0) ∧ w' = W) := fun W => by
    have := bitsNil_any n W
    rwa [← ce_nil, ce_good hn (fun x hx => by cases hx)] at this
  by_cases h1 : d < 1
  · clear h
    go_enter Try.func5, Try.ntmps5
    go_wp2_with fail
    refine c1.mono ?_
    rintro e w1 ⟨rfl, E1⟩
    have X1 : Aside (Ext w w1) := E1
    clear c1 E1
    go_wp2_with fail
    refine (c2.out w1).mono ?_
    rintro e w2 ⟨rfl, rfl⟩
    clear c2
    go_wp2
    go_ret
    exact ⟨ret_bool (by simp), X1.out⟩
  · have h2 : (n : Int) < d := h.resolve_left h1
    clear h
    go_enter Try.func5, Try.ntmps5
    go_wp2_with fail
    refine c1.mono ?_
    rintro e w1 ⟨rfl, E1⟩
    have X1 : Aside (Ext w w1) := E1
    clear c1 E1
    go_wp2_with fail
    refine (c2.out w1).mono ?_
    rintro e w2 ⟨rfl, rfl⟩
    clear c2
    go_wp2
    go_ret
    exact ⟨ret_bool (by simp), X1.out⟩

theorem bookGrows_good (n d : Nat) (hn : n ≤ 12) (hd : 1 ≤ d) (hdn : d ≤ n) (w : World) : Calls Try.prog 5 #[.int .i64 n, .int .i64 d] w fun e w' => e = .returned (.bool true) ∧ Ext w w' := by
  have c1 := grow_good n d hn hd hdn w
  have c2 : Hid (∀ W, Calls Try.prog 13 #[.int .i64 n, .slice none 0 0] W fun e w' => e = .returned (.int .i64 0) ∧ w' = W) := fun W => by
    have := bitsNil_any n W
    rwa [← ce_nil, ce_good hn (fun x hx => by cases hx)] at this
  have c3 : Hid (∀ W, Calls Try.prog 16 #[.int .i64 n, .int .i64 d] W fun e w' => ∃ v, e = .returned v ∧ OwnU W w' v (gw d (2 ^ n))) := fun W => grown_any n d hn W
  have WO : Hid (∀ (x y : Um) W, Us W x → Us W y → Calls Try.prog 17 #[x.v, y.v] W fun e w' => e = .returned (.bool (x.z == y.z)) ∧ Qt W w') := fun x y W hx hy => words_any x y W hx hy
  have hd1 : ¬ (d : Int) < 1 := by omega
  have hd2 : ¬ (n : Int) < (d : Int) := by omega
  have few : Hid ((gw d (2 ^ n)).length ≤ 4096) := Nat.le_trans (gw_few d _) (Nat.pow_le_pow_right (by omega) hn)
  generalize gw d (2 ^ n) = G at *
  go_enter Try.func5, Try.ntmps5
  go_wp2_with fail
  refine c1.mono ?_
  rintro e w1 (⟨v, h64, rfl, O1⟩ | ⟨h64, rfl, E1⟩)
  · obtain ⟨xl, rfl, hxz, hxu⟩ := O1.us
    have X1 : Aside (Ext w w1) := O1.1
    have XU : Hid (Us w1 xl) := hxu
    have XZ : Hid (xl.z = G) := hxz
    have H64 : Hid (G.length ≤ 64) := h64
    clear c1 O1 hxz hxu h64
    obtain ⟨xa, xc, xz⟩ := xl
    go_wp2_with fail
    refine (c2.out w1).mono ?_
    rintro e w2 ⟨rfl, rfl⟩
    clear c2
    go_wp2_with fail
    refine (c3.out w2).mono ?_
    rintro e w3 ⟨v, rfl, O3⟩
    obtain ⟨yl, rfl, hyz, hyu⟩ := O3.us
    have E3 : Hid (Ext w2 w3) := O3.1
    have YL : yl.z.length ≤ 64 := by rw [hyz]; exact H64.out
    clear O3 hyz hyu
    obtain ⟨ya, yc, yz⟩ := yl
    simp only [Um.v] at *
    have YLz : ¬ (yz.length : Int) > 64 := by omega
    generalize yz.length = yn at *
    go_wp2_with fail
    refine (c3.out w3).mono ?_
    rintro e w4 ⟨v, rfl, O4⟩
    obtain ⟨zl, rfl, hzz, hzu⟩ := O4.us
    have E4 : Hid (Ext w2 w4) := E3.out.trans O4.1
    have c4 := WO.out ⟨xa, xc, xz⟩ zl w4 (XU.out.ext E4.out) hzu
    have hq : (xz == zl.z) = true := by
      have hx' : xz = G := XZ.out
      rw [hx', hzz]; exact beq_self_eq_true _
    simp only at c4
    rw [hq] at c4
    clear O4 hzz hzu hq c3 WO
    obtain ⟨za, zc, zz⟩ := zl
    simp only at c4
    go_wp2_with fail
    refine c4.mono ?_
    rintro e w5 ⟨rfl, q5⟩
    have X5 : Aside (Ext w w5) := X1.out.trans (E4.out.trans q5.ext)
    clear c4 q5
    go_wp2
    go_ret
    exact ⟨ret_bool (by simp), X5.out⟩
  · have X1 : Aside (Ext w w1) := E1
    have H64 : Hid (64 < G.length) := h64
    clear c1 E1 h64
    go_wp2_with fail
    refine (c2.out w1).mono ?_
    rintro e w2 ⟨rfl, rfl⟩
    clear c2
    go_wp2_with fail
    refine (c3.out w2).mono ?_
    rintro e w3 ⟨v, rfl, O3⟩
    obtain ⟨yl, rfl, hyz, hyu⟩ := O3.us
    have X3 : Aside (Ext w w3) := X1.out.trans O3.1
    have YL : 64 < yl.z.length := by rw [hyz]; exact H64.out
    have YM : yl.z.length ≤ 4096 := by rw [hyz]; exact few.out
    clear O3 hyz hyu
    obtain ⟨ya, yc, yz⟩ := yl
    simp only [Um.v] at *
    have YLz : (yz.length : Int) > 64 := by omega
    generalize yz.length = yn at *
    go_wp2
    go_ret
    exact ⟨ret_bool (by simp), X3.out⟩

theorem bookGrows_walk (n d : Int) (w : World) : Calls Try.prog 5 #[.int .i64 n, .int .i64 d] w fun e w' => e = .returned (.bool true) ∧ Ext w w' := by
  by_cases h : ce n [] = 0
  · obtain ⟨m, rfl, hm, _⟩ := ce_zero h
    by_cases h2 : d < 1 ∨ (m : Int) < d
    · exact bookGrows_range m hm d h2 w
    · obtain ⟨D, rfl⟩ : ∃ D : Nat, d = D := ⟨d.toNat, by omega⟩
      exact bookGrows_good m D hm (by omega) (by omega) w
  · exact bookGrows_bits n d h w

set_option maxRecDepth 100000 in
theorem bookGrows_lifted (os : Os) (started : os.Started) (H : Type) (enc : TypeId × Value → H) :
    ReturnsInHanded {} Try.checked os 5 .any (Rows.bookGrowsSpec.pre6 enc Try.prog Try.f5 Rows.bookGrowsRow.domain false) (Rows.bookGrowsSpec.post enc Try.prog Try.f5 false true false false) := by
  refine returnsInHanded_of_change (C := Try.checked) own started (by kernel_rfl) Try.func5
    (ChangeSpec.witness6 (enc := enc) (C := Try.checked) false ⟨#[], #[.int .i64 0, .int .i64 0], []⟩ 8 (by kernel_rfl) (by kernel_rfl) (by kernel_rfl) (by kernel_rfl)) ?_
  intro W base args ds gs before hval0 hW _ _
  have hval : ∀ (j : Nat) t v, Try.f5.params[j]? = some t → args[j]? = some v → Value.okWide Try.prog W .any base t v := hval0
  have hW' := hW
  obtain ⟨p, q, hA0, hV, rfl, hfz, hnd⟩ := hW
  have hA : DataW.TrodAll enc Try.prog W 0 (fun _ => true) true Try.f5.params.toList args.toList ds p := hA0
  rw [Try.params5] at hA hval
  obtain ⟨v0, vs0, d0, ds0, p0, q0, hargs, rfl, rfl, h0, r0⟩ := trodAll_cons hA
  obtain ⟨v1, vs1, d1, ds1, p1, q1, rfl, rfl, rfl, h1, r1⟩ := trodAll_cons r0
  obtain ⟨rfl, rfl, rfl⟩ := trodAll_nil r1
  obtain rfl : args = #[v0, v1] := by cases args; simp_all
  obtain ⟨rfl, rfl⟩ := trodVars_none hV
  have lt0 : ∀ x ∈ p0, x.block < W.heap.size := by obtain ⟨m, hm⟩ := h0; exact DataW.trod_lt m _ _ _ hm
  obtain ⟨x0, rfl, -, -, wf0⟩ := open_int Try.underlying3 (hval 0 3 v0 rfl rfl) h0
  have lt1 : ∀ x ∈ p1, x.block < W.heap.size := by obtain ⟨m, hm⟩ := h1; exact DataW.trod_lt m _ _ _ hm
  obtain ⟨x1, rfl, -, -, wf1⟩ := open_int Try.underlying3 (hval 1 3 v1 rfl rfl) h1
  clear hA0 hval0
  refine (bookGrows_walk x0 x1 W).mono fun e W' ⟨he, bel⟩ => ?_
  subst he
  exact ⟨_, rfl, _, _, _, [], _, [], hW', trodAll_mk1 (shut_bool Try.underlying4 _), (trodAll_cons_mk (Below.trod laidOut (by kernel_rfl) (of_decide_eq_true (by kernel_rfl)) h0 bel lt0) (trodAll_cons_mk (Below.trod laidOut (by kernel_rfl) (of_decide_eq_true (by kernel_rfl)) h1 bel lt1) trodAll_mk0)), rfl, bel.frame _, fun h => by cases h⟩

theorem bookGrows_holds : Rows.BookGrowsSaid :=
  OpenClaim.holds_of_wide 5 Try.f5 rfl rfl rfl rfl rfl rfl rfl ⟨rfl, rfl, rfl, rfl, rfl⟩ rfl rfl rfl rfl rfl (by kernel_rfl) Try.func5 (by kernel_rfl)
    (of_decide_eq_true (by kernel_rfl)) (by unfold Func.isWrapper; rw [if_neg (of_decide_eq_false (by kernel_rfl))]; exact ⟨rfl, rfl⟩)
    (fun os started H enc _ => bookGrows_lifted os started H enc)

#print axioms bookGrows_holds

end Go.Proofs.Ytfcleenbhadfhab
