/-
  For any data the program tells the bits that hang on them: TrellisPuts returns true for every list of bits, and changes nothing.
-/
import Derived.Test.YtnkhlohoaoiefaaOpen
import Derived.Test.YtnkhlohoaoiefaaEq
import Derived.Test.YtnkhlohoaoiefaaPu
import Derived.Test.YtnkhlohoaoiefaaRt
import Derived.ProofKit
namespace Go.Proofs.Ytnkhlohoaoiefaa
open Go.ChangeShapes Go.WideShapes Go.ChangeAt Go.RowKit Go.Deep
set_option linter.unusedVariables false

set_option maxRecDepth 100000 in
theorem trellisPuts_bad (x : Wd) (hl : 12 < x.l.length) (w : World) : Calls Try.prog 3 #[x.v] w fun e w' => e = .returned (.bool true) ∧ Ext w w' := by
  have c1 := put_bad x hl w
  have hz : (12 : Int) < x.l.length := by omega
  simp only [Wd.v] at *
  generalize x.l.length = n at *
  go_enter Try.func3, Try.ntmps3
  go_wp2_with fail
  refine c1.mono ?_
  rintro e w1 ⟨rfl, rfl⟩
  clear c1
  go_wp2
  go_ret
  exact ⟨rfl, Ext.refl _⟩

set_option maxRecDepth 100000 in
theorem trellisPuts_good (x : Wd) (hl : x.l.length ≤ 12) (w : World) (hx : Bits w x) : Calls Try.prog 3 #[x.v] w fun e w' => e = .returned (.bool true) ∧ Ext w w' := by
  have c1 := put_good x hl w hx
  have c2 : Hid (∀ W, Ext w W → Calls Try.prog 6 #[x.v] W fun e w' => ∃ y : Wd, e = .returned y.v ∧ y.l = tr x.l ∧ Bits w' y ∧ Ext W w') := fun W E => refTrellis_any x hl W (hx.ext E)
  have c3 : Hid (∀ (y z : Wd) (W : World), y.l = tr x.l → z.l = tr x.l → Bits W y → Bits W z → Calls Try.prog 5 #[y.v, z.v] W fun e w' => e = .returned (.bool true) ∧ Ext W w') := fun y z W hy hz h h' => by
    refine (bools_any y z W h h').mono ?_
    rintro e w' ⟨rfl, q⟩
    refine ⟨ret_bool ?_, q.ext⟩
    rw [hy, hz]
    simp
  simp only [Wd.v] at *
  have hz : ¬ (12 : Int) < x.l.length := by omega
  generalize tr x.l = R at *
  generalize x.l.length = n at *
  clear hl
  go_enter Try.func3, Try.ntmps3
  go_wp2_with fail
  refine c1.mono ?_
  rintro e w1 ⟨y, rfl, hy, hb, E1⟩
  have Y : Hid (y.l = R ∧ Bits w1 y) := ⟨hy, hb⟩
  have E : Hid (Ext w w1) := E1
  clear c1 hy hb E1
  go_wp2_with fail
  refine (c2.out w1 E.out).mono ?_
  rintro e w2 ⟨z, rfl, hz, hb, E2⟩
  have Z : Hid (z.l = R ∧ Bits w2 z) := ⟨hz, hb⟩
  have Y2 : Hid (y.l = R ∧ Bits w2 y) := ⟨Y.out.1, Y.out.2.ext E2⟩
  have E' : Hid (Ext w w2) := E.out.trans E2
  clear c2 hz hb E2 E Y
  go_wp2_with fail
  refine (c3.out y z w2 Y2.out.1 Z.out.1 Y2.out.2 Z.out.2).mono ?_
  rintro e w3 ⟨rfl, E3⟩
  have E4 : Hid (Ext w w3) := E'.out.trans E3
  clear c3 E3 E' Y2 Z
  go_wp2
  go_ret
  exact ⟨rfl, E4.out⟩

theorem trellisPuts_walk (x : Wd) (w : World) (hx : Bits w x) : Calls Try.prog 3 #[x.v] w fun e w' => e = .returned (.bool true) ∧ Ext w w' := by
  by_cases h : x.l.length ≤ 12
  · exact trellisPuts_good x h w hx
  · exact trellisPuts_bad x (by omega) w

set_option maxRecDepth 100000 in
theorem trellisPuts_lifted (os : Os) (started : os.Started) (H : Type) (enc : TypeId × Value → H) :
    ReturnsInHanded {} Try.checked os 3 .any (Rows.trellisPutsSpec.pre6 enc Try.prog Try.f3 Rows.trellisPutsRow.domain false) (Rows.trellisPutsSpec.post enc Try.prog Try.f3 false true false false) := by
  refine returnsInHanded_of_change (C := Try.checked) own started (by kernel_rfl) Try.func3
    (ChangeSpec.witness6 (enc := enc) (C := Try.checked) false ⟨#[], #[.slice none 0 0], []⟩ 8 (by kernel_rfl) (by kernel_rfl) (by kernel_rfl) (by kernel_rfl)) ?_
  intro W base args ds gs before hval0 hW _ _
  have hval : ∀ (j : Nat) t v, Try.f3.params[j]? = some t → args[j]? = some v → Value.okWide Try.prog W .any base t v := hval0
  have hW' := hW
  obtain ⟨p, q, hA0, hV, rfl, hfz, hnd⟩ := hW
  have hA : DataW.TrodAll enc Try.prog W 0 (fun _ => true) true Try.f3.params.toList args.toList ds p := hA0
  rw [Try.params3] at hA hval
  obtain ⟨v0, vs0, d0, ds0, p0, q0, hargs, rfl, rfl, h0, r0⟩ := trodAll_cons hA
  obtain ⟨rfl, rfl, rfl⟩ := trodAll_nil r0
  obtain rfl : args = #[v0] := by cases args; simp_all
  obtain ⟨rfl, rfl⟩ := trodVars_none hV
  have lt0 : ∀ x ∈ p0, x.block < W.heap.size := by obtain ⟨m, hm⟩ := h0; exact DataW.trod_lt m _ _ _ hm
  obtain ⟨x0, rfl, w0⟩ := open_word (hval 0 22 v0 rfl rfl) h0
  clear hA0 hval0
  refine (trellisPuts_walk x0 W w0).mono fun e W' ⟨he, bel⟩ => ?_
  subst he
  exact ⟨_, rfl, _, _, _, [], _, [], hW', trodAll_mk1 (shut_bool Try.underlying4 _), (trodAll_cons_mk (Below.trod laidOut (by kernel_rfl) (of_decide_eq_true (by kernel_rfl)) h0 bel lt0) trodAll_mk0), rfl, bel.frame _, fun h => by cases h⟩

theorem trellisPuts_holds : Rows.TrellisPutsSaid :=
  OpenClaim.holds_of_wide 3 Try.f3 rfl rfl rfl rfl rfl rfl rfl ⟨rfl, rfl, rfl, rfl, rfl⟩ rfl rfl rfl rfl rfl (by kernel_rfl) Try.func3 (by kernel_rfl)
    (of_decide_eq_true (by kernel_rfl)) (by unfold Func.isWrapper; rw [if_neg (of_decide_eq_false (by kernel_rfl))]; exact ⟨rfl, rfl⟩)
    (fun os started H enc _ => trellisPuts_lifted os started H enc)

#print axioms trellisPuts_holds

end Go.Proofs.Ytnkhlohoaoiefaa
