/-
  For any bits the program tells what the most votes say: MullerGets returns true for every two numbers and every list of bits, and changes nothing.
-/
import Derived.Test.YtakojkekelhobaaOpen
import Derived.Test.YtakojkekelhobaaFr
import Derived.Test.YtakojkekelhobaaRg
namespace Go.Proofs.Ytakojkekelhobaa
open Go.ChangeShapes Go.WideShapes Go.ChangeAt Go.RowKit Go.Deep
set_option linter.unusedVariables false

theorem mullerGets_bad (r m : Int) (x : Wd) (h : mce r m = 4) (w : World) : Calls Try.prog 5 #[.int .i64 r, .int .i64 m, x.v] w fun e w' => e = .returned (.bool true) ∧ Ext w w' := by
  have c1 := Get_bad r m x h w
  have c2 := mullerCheck_any r m w
  rw [h] at c2
  clear h
  simp only [Wd.v] at *
  go_enter Try.func5, Try.ntmps5
  go_wp2_with fail
  refine c1.mono ?_
  rintro e w1 ⟨rfl, rfl⟩
  clear c1
  go_wp2_with fail
  refine c2.mono ?_
  rintro e w1 ⟨rfl, rfl⟩
  clear c2
  go_wp2
  go_ret
  exact ⟨rfl, Ext.refl _⟩

theorem mullerGets_form {r m : Nat} (hm : m ≤ 4) (hr : r ≤ m) (x : Wd) (hl : x.l.length ≠ 2 ^ m) (w : World) : Calls Try.prog 5 #[.int .i64 r, .int .i64 m, x.v] w fun e w' => e = .returned (.bool true) ∧ Ext w w' := by
  have c1 := Get_form hm hr x hl w
  have c2 : Hid (∀ W, Calls Try.prog 9 #[.int .i64 r, .int .i64 m] W fun e w' => e = .returned (.int .i64 0) ∧ w' = W) := fun W => by
    have := mullerCheck_any r m W
    rw [mce_nat hm hr] at this
    exact this
  have pw := pow_four m hm
  simp only [Wd.v] at c1 ⊢
  generalize 2 ^ m = n at *
  generalize x.l.length = k at *
  have hne : ((k : Int) != (n : Int)) = true := bne_iff_ne.2 (by omega)
  have hne2 : ¬ (k : Int) = (n : Int) := by omega
  clear hr hl
  go_enter Try.func5, Try.ntmps5
  go_wp2_with fail
  refine c1.mono ?_
  rintro e w1 ⟨rfl, rfl⟩
  have E1' : Hid (Ext w1 w1) := Ext.refl w1
  clear c1
  go_wp2_with fail
  refine (c2.out _).mono ?_
  rintro e w2 ⟨rfl, rfl⟩
  clear c2
  go_wp2
  go_ret
  exact ⟨rfl, E1'.out⟩

theorem mullerGets_good {r m : Nat} (hm : m ≤ 4) (hr : r ≤ m) (x : Wd) (hl : x.l.length = 2 ^ m) (w : World) (hx : Bits w x) : Calls Try.prog 5 #[.int .i64 r, .int .i64 m, x.v] w fun e w' => e = .returned (.bool true) ∧ Ext w w' := by
  have c1 := Get_good hm hr x hl w hx
  have c2 : Hid (∀ W, Calls Try.prog 9 #[.int .i64 r, .int .i64 m] W fun e w' => e = .returned (.int .i64 0) ∧ w' = W) := fun W => by
    have := mullerCheck_any r m W
    rw [mce_nat hm hr] at this
    exact this
  have pw := pow_four m hm
  have c4 : Hid (∀ W, Ext w W → Calls Try.prog 15 #[.int .i64 r, .int .i64 m, x.v] W fun e w' => ∃ d : Wd, e = .returned d.v ∧ d.l = bl (gd (2 ^ m) (pl m (r + 1)) r (fun i => x.l.getD i false) (r + 1)) (pl m (r + 1)).length ∧ Bits w' d ∧ Ext W w') := fun W e => by
    refine (mullerGet_any m r hm hr x hl W (hx.ext e)).mono ?_
    rintro e w' ⟨d, rfl, hd, hb, hE⟩
    exact ⟨d, rfl, hd, hb, hE⟩
  have BQ : Hid (∀ (y z : Wd) W, Bits W y → Bits W z → Calls Try.prog 12 #[y.v, z.v] W fun e w' => e = .returned (.bool (y.l == z.l)) ∧ Qt W w') := fun y z W h h' => bools_any y z W h h'
  simp only [Wd.v] at c1 c4 ⊢
  rw [hl] at c1 c4 ⊢
  generalize bl (gd (2 ^ m) (pl m (r + 1)) r (fun i => x.l.getD i false) (r + 1)) (pl m (r + 1)).length = H at *
  generalize 2 ^ m = n at *
  generalize x.a = xa at *
  generalize x.c = xc at *
  clear hr hl hx x
  go_enter Try.func5, Try.ntmps5
  go_wp2_with fail
  refine c1.mono ?_
  rintro e w1 ⟨d, rfl, hd, hb, E1⟩
  have Y1 : Hid (d.l = H ∧ Bits w1 d) := ⟨hd, hb⟩
  have E1' : Hid (Ext w w1) := E1
  obtain ⟨v1, hv1⟩ : ∃ v, d.v = v := ⟨_, rfl⟩
  have HV1 : Hid (d.v = v1) := hv1
  clear c1 hd hb E1 hv1
  go_wp2_with fail
  refine (c2.out _).mono ?_
  rintro e w2 ⟨rfl, rfl⟩
  clear c2
  have Y3 : Hid (d.l = H ∧ Bits w2 d) := Y1.out
  have E3' : Hid (Ext w w2) := E1'.out
  clear Y1 E1'
  have k4 := c4.out _ E3'.out
  clear c4
  go_wp2_with fail
  refine k4.mono ?_
  rintro e w4 ⟨d4, rfl, hd4, hb4, E4⟩
  have k5 := BQ.out d d4 w4 (Y3.out.2.ext E4) hb4
  rw [Y3.out.1, hd4, beq_self_eq_true] at k5
  have E5 : Hid (Ext w w4) := E3'.out.trans E4
  clear k4 BQ Y3 E3' hd4 hb4 E4 HV1
  simp only [Wd.v] at k5
  generalize d.l.length = dl at *
  generalize d4.l.length = dl4 at *
  go_wp2_with fail
  refine k5.mono ?_
  rintro e w6 ⟨rfl, q6⟩
  have E6 : Hid (Ext w w6) := E5.out.trans q6.ext
  clear k5 q6 E5
  go_wp2
  go_ret
  exact ⟨rfl, E6.out⟩

theorem mullerGets_walk (r m : Int) (x : Wd) (w : World) (hx : Bits w x) : Calls Try.prog 5 #[.int .i64 r, .int .i64 m, x.v] w fun e w' => e = .returned (.bool true) ∧ Ext w w' := by
  by_cases h : 0 ≤ m ∧ m ≤ 4 ∧ 0 ≤ r ∧ r ≤ m
  · obtain ⟨M, rfl⟩ : ∃ M : Nat, m = M := ⟨m.toNat, by omega⟩
    obtain ⟨R, rfl⟩ : ∃ R : Nat, r = R := ⟨r.toNat, by omega⟩
    by_cases hl : x.l.length = 2 ^ M
    · exact mullerGets_good (by omega) (by omega) x hl w hx
    · exact mullerGets_form (by omega) (by omega) x hl w
  · exact mullerGets_bad r m x (mce_bad h) w

set_option maxRecDepth 100000 in
theorem mullerGets_lifted (os : Os) (started : os.Started) (H : Type) (enc : TypeId × Value → H) :
    ReturnsInHanded {} Try.checked os 5 .any (Rows.mullerGetsSpec.pre6 enc Try.prog Try.f5 Rows.mullerGetsRow.domain false) (Rows.mullerGetsSpec.post enc Try.prog Try.f5 false true false false) := by
  refine returnsInHanded_of_change (C := Try.checked) own started (by kernel_rfl) Try.func5
    (ChangeSpec.witness6 (enc := enc) (C := Try.checked) false ⟨#[], #[.int .i64 0, .int .i64 0, .slice none 0 0], []⟩ 8 (by kernel_rfl) (by kernel_rfl) (by kernel_rfl) (by kernel_rfl)) ?_
  intro W base args ds gs before hval0 hW _ _
  have hval : ∀ (j : Nat) t v, Try.f5.params[j]? = some t → args[j]? = some v → Value.okWide Try.prog W .any base t v := hval0
  have hW' := hW
  obtain ⟨p, q, hA0, hV, rfl, hfz, hnd⟩ := hW
  have hA : DataW.TrodAll enc Try.prog W 0 (fun _ => true) true Try.f5.params.toList args.toList ds p := hA0
  rw [Try.params5] at hA hval
  obtain ⟨v0, vs0, d0, ds0, p0, q0, hargs, rfl, rfl, h0, r0⟩ := trodAll_cons hA
  obtain ⟨v1, vs1, d1, ds1, p1, q1, rfl, rfl, rfl, h1, r1⟩ := trodAll_cons r0
  obtain ⟨v2, vs2, d2, ds2, p2, q2, rfl, rfl, rfl, h2, r2⟩ := trodAll_cons r1
  obtain ⟨rfl, rfl, rfl⟩ := trodAll_nil r2
  obtain rfl : args = #[v0, v1, v2] := by cases args; simp_all
  obtain ⟨rfl, rfl⟩ := trodVars_none hV
  have lt0 : ∀ x ∈ p0, x.block < W.heap.size := by obtain ⟨m, hm⟩ := h0; exact DataW.trod_lt m _ _ _ hm
  obtain ⟨x0, rfl, -, -, wf0⟩ := open_int Try.underlying3 (hval 0 3 v0 rfl rfl) h0
  have lt1 : ∀ x ∈ p1, x.block < W.heap.size := by obtain ⟨m, hm⟩ := h1; exact DataW.trod_lt m _ _ _ hm
  obtain ⟨x1, rfl, -, -, wf1⟩ := open_int Try.underlying3 (hval 1 3 v1 rfl rfl) h1
  have lt2 : ∀ x ∈ p2, x.block < W.heap.size := by obtain ⟨m, hm⟩ := h2; exact DataW.trod_lt m _ _ _ hm
  obtain ⟨x2, rfl, w2⟩ := open_word (hval 2 29 v2 rfl rfl) h2
  clear hA0 hval0
  refine (mullerGets_walk x0 x1 x2 W w2).mono fun e W' ⟨he, bel⟩ => ?_
  subst he
  exact ⟨_, rfl, _, _, _, [], _, [], hW', trodAll_mk1 (shut_bool Try.underlying4 _), (trodAll_cons_mk (Below.trod laidOut (by kernel_rfl) (of_decide_eq_true (by kernel_rfl)) h0 bel lt0) (trodAll_cons_mk (Below.trod laidOut (by kernel_rfl) (of_decide_eq_true (by kernel_rfl)) h1 bel lt1) (trodAll_cons_mk (Below.trod laidOut (by kernel_rfl) (of_decide_eq_true (by kernel_rfl)) h2 bel lt2) trodAll_mk0))), rfl, bel.frame _, fun h => by cases h⟩

theorem mullerGets_holds : Rows.MullerGetsSaid :=
  OpenClaim.holds_of_wide 5 Try.f5 rfl rfl rfl rfl rfl rfl rfl ⟨rfl, rfl, rfl, rfl, rfl⟩ rfl rfl rfl rfl rfl (by kernel_rfl) Try.func5 (by kernel_rfl)
    (of_decide_eq_true (by kernel_rfl)) (by unfold Func.isWrapper; rw [if_neg (of_decide_eq_false (by kernel_rfl))]; exact ⟨rfl, rfl⟩)
    (fun os started H enc _ => mullerGets_lifted os started H enc)

#print axioms mullerGets_holds

end Go.Proofs.Ytakojkekelhobaa
