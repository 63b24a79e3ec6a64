/-
  For any data the program tells the bits at all places, and one more: HammPutsTwo returns true for every number and every list of bits, and changes nothing.
-/
import Derived.Test.YtdplmaofapnhhaaOpen
import Derived.Test.YtdplmaofapnhhaaFac
import Derived.Test.YtdplmaofapnhhaaRhm
import Derived.Test.YtdplmaofapnhhaaFxd
namespace Go.Proofs.Ytdplmaofapnhhaa
open Go.ChangeShapes Go.WideShapes Go.ChangeAt Go.RowKit Go.Deep
set_option linter.unusedVariables false

theorem hammPutsTwo_bad (r : Int) (x : Wd) (w : World) (h : cke r x.l.length (-r) ≠ 0) : Calls Try.prog 5 #[.int .i64 r, x.v] w fun e w' => e = .returned (.bool true) ∧ Ext w w' := by
  have c1 := Put2_bad r x h w
  have c2 := refCheckD_any r x.l.length (wrap64 (-r)) (fun h => by simp only [wrap64]; omega) w
  have hb : (cke r x.l.length (-r) == 0) = false := beq_eq_false_iff_ne.2 h
  generalize cke r x.l.length (-r) = E at *
  simp only [Wd.v] at *
  go_enter Try.func5, Try.ntmps5
  go_wp2_with fail
  refine c1.mono ?_
  rintro e w1 ⟨rfl, rfl⟩
  clear c1
  go_wp2_with fail
  refine c2.mono ?_
  rintro e w1 ⟨rfl, rfl⟩
  clear c2
  go_wp2
  go_ret
  exact ⟨rfl, Ext.refl _⟩

set_option maxHeartbeats 2000000 in
theorem hammPutsTwo_good {r : Nat} (hr : R r) (x : Wd) (w : World) (hd : x.l.length = 2 ^ r - 1 - r) (hx : Bits w x) : Calls Try.prog 5 #[.int .i64 r, x.v] w fun e w' => e = .returned (.bool true) ∧ Ext w w' := by
  have c1 := Put2_good hr x hd w hx
  have c2 : Hid (∀ W, Calls Try.prog 10 #[.int .i64 r, .int .i64 x.l.length, .int .i64 (wrap64 (-(r : Int)))] W fun e w' => e = .returned (.int .i64 0) ∧ w' = W) := fun W => by
    have := refCheckD_any r x.l.length (wrap64 (-(r : Int))) (fun h => by simp only [wrap64]; omega) W
    rw [cke_good hr ((len_data hr).2 hd)] at this
    exact this
  have c3 : Hid (∀ W, Ext w W → Calls Try.prog 12 #[.int .i64 r, x.v] W fun e w' => ∃ v, e = .returned v ∧ OwnB W w' v (hp r x.l)) := fun W e => refHamm_any hr x hd W (hx.ext e)
  have HL : Hid ((hp r x.l).length + 1 ≤ 140737488355328) := by
    show _ ≤ _
    rw [hp_len]
    have : 2 ^ r - 1 ≤ 15 := by obtain rfl | rfl | rfl := hr.cases <;> decide
    omega
  have BQ : Hid (∀ (y z : Wd) W, Bits W y → Bits W z → Calls Try.prog 11 #[y.v, z.v] W fun e w' => e = .returned (.bool (y.l == z.l)) ∧ Qt W w') := fun y z W h h' => bools_any y z W h h'
  have OB : Hid (∀ (y : Wd) W, Bits W y → Calls Try.prog 16 #[y.v] W fun e w' => e = .returned (.bool (ob y.l)) ∧ w' = W) := fun y W h => oddBits_any y W h
  simp only [Wd.v] at c1 c2 c3 ⊢
  have hm : wrap64 (-(r : Int)) = -(r : Int) := by have := hr.2; simp only [wrap64]; omega
  rw [hm] at c2
  have hr4 : (r : Int) ≤ 4 := by have := hr.2; omega
  clear hx hd hr hm
  generalize hp r x.l = H at *
  generalize x.l.length = n at *
  go_enter Try.func5, Try.ntmps5
  go_wp2_with fail
  refine c1.mono ?_
  rintro e w1 ⟨v1, rfl, O1⟩
  obtain ⟨y1, rfl, hy1, hb1⟩ := O1.bits
  have Y1 : Hid (y1.l = H ++ [ob H] ∧ Bits w1 y1) := ⟨hy1, hb1⟩
  have E1 : Hid (Ext w w1) := O1.1
  obtain ⟨v1, hv1⟩ : ∃ v, y1.v = v := ⟨_, rfl⟩
  rw [hv1]
  have HV1 : Hid (y1.v = v1) := hv1
  have k2 := c2.out w1
  clear c1 c2 O1 hy1 hb1 hv1
  go_wp2_with fail
  refine k2.mono ?_
  rintro e w1' ⟨rfl, rfl⟩
  have k3 := c3.out w1' E1.out
  clear k2 c3
  go_wp2_with fail
  refine k3.mono ?_
  rintro e w3 ⟨v3, rfl, O3⟩
  obtain ⟨y3, rfl, hy3, hb3⟩ := O3.bits
  have Y3 : Hid (y3.l = H ∧ Bits w3 y3) := ⟨hy3, hb3⟩
  have O3' : Hid (OwnB w1' w3 y3.v H) := O3
  clear k3 hy3 hb3 O3
  have k4 := OB.out y3 w3 Y3.out.2
  rw [Y3.out.1] at k4
  have E3 : Hid (Ext w w3) := E1.out.trans O3'.out.1
  have X3 : Hid (Ext w1' w3) := O3'.out.1
  have E0 : Hid (Ext w w1') := E1.out
  clear OB E1
  obtain ⟨v3, hv3⟩ : ∃ v, y3.v = v := ⟨_, rfl⟩
  rw [hv3] at k4 O3' ⊢
  clear hv3
  obtain ⟨tb, htb⟩ : ∃ tb, ob H = tb := ⟨_, rfl⟩
  rw [htb] at k4
  have HT : Hid (ob H = tb) := htb
  clear htb Y3
  go_wp2_with fail
  refine k4.mono ?_
  rintro e w4 ⟨rfl, rfl⟩
  clear k4
  go_wp2_with (at_builtin; refine wpList_met rfl ?_; refine wpList_appendBit rfl _ _ rfl w1' _ v3 (by rfl) _ O3'.out tb (by rfl) HL.out ?_; intro v5 w5 O5)
  obtain ⟨y5, rfl, hy5, hb5⟩ := O5.bits
  have k5 := BQ.out y1 y5 w5 (Y1.out.2.ext O5.1) hb5
  rw [Y1.out.1, hy5, HT.out, beq_self_eq_true, HV1.out] at k5
  have E5 : Hid (Ext w w5) := E0.out.trans O5.1
  clear BQ O5 hy5 hb5
  generalize y5.v = v5 at *
  go_wp2_with fail
  refine k5.mono ?_
  rintro e w6 ⟨rfl, q6⟩
  have E6 : Hid (Ext w w6) := E5.out.trans q6.ext
  clear k5 q6
  go_wp2
  go_ret
  exact ⟨rfl, E6.out⟩

theorem hammPutsTwo_walk (r : Int) (x : Wd) (w : World) (hx : Bits w x) : Calls Try.prog 5 #[.int .i64 r, x.v] w fun e w' => e = .returned (.bool true) ∧ Ext w w' := by
  by_cases h : cke r x.l.length (-r) = 0
  · obtain ⟨m, rfl, hr, hn⟩ := of_cke h
    exact hammPutsTwo_good hr x w ((len_data hr).1 hn) hx
  · exact hammPutsTwo_bad r x w h

set_option maxRecDepth 100000 in
theorem hammPutsTwo_lifted (os : Os) (started : os.Started) (H : Type) (enc : TypeId × Value → H) :
    ReturnsInHanded {} Try.checked os 5 .any (Rows.hammPutsTwoSpec.pre6 enc Try.prog Try.f5 Rows.hammPutsTwoRow.domain false) (Rows.hammPutsTwoSpec.post enc Try.prog Try.f5 false true false false) := by
  refine returnsInHanded_of_change (C := Try.checked) own started (by kernel_rfl) Try.func5
    (ChangeSpec.witness6 (enc := enc) (C := Try.checked) false ⟨#[], #[.int .i64 0, .slice none 0 0], []⟩ 8 (by kernel_rfl) (by kernel_rfl) (by kernel_rfl) (by kernel_rfl)) ?_
  intro W base args ds gs before hval0 hW _ _
  have hval : ∀ (j : Nat) t v, Try.f5.params[j]? = some t → args[j]? = some v → Value.okWide Try.prog W .any base t v := hval0
  have hW' := hW
  obtain ⟨p, q, hA0, hV, rfl, hfz, hnd⟩ := hW
  have hA : DataW.TrodAll enc Try.prog W 0 (fun _ => true) true Try.f5.params.toList args.toList ds p := hA0
  rw [Try.params5] at hA hval
  obtain ⟨v0, vs0, d0, ds0, p0, q0, hargs, rfl, rfl, h0, r0⟩ := trodAll_cons hA
  obtain ⟨v1, vs1, d1, ds1, p1, q1, rfl, rfl, rfl, h1, r1⟩ := trodAll_cons r0
  obtain ⟨rfl, rfl, rfl⟩ := trodAll_nil r1
  obtain rfl : args = #[v0, v1] := by cases args; simp_all
  obtain ⟨rfl, rfl⟩ := trodVars_none hV
  have lt0 : ∀ x ∈ p0, x.block < W.heap.size := by obtain ⟨m, hm⟩ := h0; exact DataW.trod_lt m _ _ _ hm
  obtain ⟨x0, rfl, -, -, wf0⟩ := open_int Try.underlying3 (hval 0 3 v0 rfl rfl) h0
  have lt1 : ∀ x ∈ p1, x.block < W.heap.size := by obtain ⟨m, hm⟩ := h1; exact DataW.trod_lt m _ _ _ hm
  obtain ⟨x1, rfl, w1⟩ := open_word (hval 1 22 v1 rfl rfl) h1
  clear hA0 hval0
  refine (hammPutsTwo_walk x0 x1 W w1).mono fun e W' ⟨he, bel⟩ => ?_
  subst he
  exact ⟨_, rfl, _, _, _, [], _, [], hW', trodAll_mk1 (shut_bool Try.underlying4 _), (trodAll_cons_mk (Below.trod laidOut (by kernel_rfl) (of_decide_eq_true (by kernel_rfl)) h0 bel lt0) (trodAll_cons_mk (Below.trod laidOut (by kernel_rfl) (of_decide_eq_true (by kernel_rfl)) h1 bel lt1) trodAll_mk0)), rfl, bel.frame _, fun h => by cases h⟩

theorem hammPutsTwo_holds : Rows.HammPutsTwoSaid :=
  OpenClaim.holds_of_wide 5 Try.f5 rfl rfl rfl rfl rfl rfl rfl ⟨rfl, rfl, rfl, rfl, rfl⟩ rfl rfl rfl rfl rfl (by kernel_rfl) Try.func5 (by kernel_rfl)
    (of_decide_eq_true (by kernel_rfl)) (by unfold Func.isWrapper; rw [if_neg (of_decide_eq_false (by kernel_rfl))]; exact ⟨rfl, rfl⟩)
    (fun os started H enc _ => hammPutsTwo_lifted os started H enc)

#print axioms hammPutsTwo_holds

end Go.Proofs.Ytdplmaofapnhhaa
