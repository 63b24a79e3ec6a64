/-
  For any bits of which one is gone the program tells those that there were: DropFills returns true for every number and every list of bits, and changes nothing.
-/
import Derived.Test.YtofdinddloejbaaOpen
import Derived.Test.YtofdinddloejbaaEq
import Derived.Test.YtofdinddloejbaaFi
import Derived.Test.YtofdinddloejbaaDp
import Derived.ProofKit
namespace Go.Proofs.Ytofdinddloejbaa
open Go.ChangeShapes Go.WideShapes Go.ChangeAt Go.RowKit Go.Deep
set_option linter.unusedVariables false

set_option maxRecDepth 100000 in
theorem dropFills_large (a : Int) (x : Wd) (hl : 12 ≤ x.l.length) (w : World) (hx : Bits w x) : Calls Try.prog 5 #[.int .i64 a, x.v] w fun e w' => e = .returned (.bool true) ∧ Ext w w' := by
  have c1 := Fill_large a x hl (Nat.le_trans hx.1 hx.2.1) w
  have hz : (12 : Int) ≤ (x.l.length : Int) := by omega
  simp only [Wd.v] at *
  clear hx
  generalize x.l.length = n at *
  go_enter Try.func5, Try.ntmps5
  go_wp2_with fail
  refine c1.mono ?_
  rintro e w1 ⟨rfl, rfl⟩
  clear c1
  go_wp2
  go_ret
  exact ⟨rfl, Ext.refl _⟩

set_option maxRecDepth 100000 in
theorem dropFills_low (a : Int) (x : Wd) (hl : x.l.length < 12) (ha : a < 0) (w : World) : Calls Try.prog 5 #[.int .i64 a, x.v] w fun e w' => e = .returned (.bool true) ∧ Ext w w' := by
  have c1 := Fill_range a x hl (.inl ha) w
  have hz : ¬ (12 : Int) ≤ (x.l.length : Int) := by omega
  simp only [Wd.v] at *
  generalize x.l.length = n at *
  go_enter Try.func5, Try.ntmps5
  go_wp2_with fail
  refine c1.mono ?_
  rintro e w1 ⟨rfl, rfl⟩
  clear c1
  go_wp2
  go_ret
  exact ⟨rfl, Ext.refl _⟩

set_option maxRecDepth 100000 in
theorem dropFills_high (a : Int) (x : Wd) (hl : x.l.length < 12) (h0 : ¬ a < 0) (ha : (x.l.length : Int) + 1 < a) (w : World) : Calls Try.prog 5 #[.int .i64 a, x.v] w fun e w' => e = .returned (.bool true) ∧ Ext w w' := by
  have c1 := Fill_range a x hl (.inr ha) w
  have hz : ¬ (12 : Int) ≤ (x.l.length : Int) := by omega
  simp only [Wd.v] at *
  generalize x.l.length = n at *
  go_enter Try.func5, Try.ntmps5
  go_wp2_with fail
  refine c1.mono ?_
  rintro e w1 ⟨rfl, rfl⟩
  clear c1
  go_wp2
  go_ret
  exact ⟨rfl, Ext.refl _⟩

set_option maxRecDepth 100000 in
theorem dropFills_good (a : Nat) (x : Wd) (hl : x.l.length < 12) (ha : a ≤ x.l.length + 1) (w : World) (hx : Bits w x) : Calls Try.prog 5 #[.int .i64 a, x.v] w fun e w' => e = .returned (.bool true) ∧ Ext w w' := by
  have c1 := Fill_good a x hl ha w hx
  have c2 : Hid (∀ W, Ext w W → Calls Try.prog 16 #[.int .i64 a, x.v] W fun e w' => ∃ y : Wd, e = .returned (.tuple #[y.v, .bool true]) ∧ y.l = fl a x.l ∧ Bits w' y ∧ Ext W w') := fun W E => drops_any a x hl ha W (hx.ext E)
  have c3 : Hid (∀ (y z : Wd) (W : World), y.l = fl a x.l → z.l = fl a x.l → Bits W y → Bits W z → Calls Try.prog 17 #[y.v, z.v] W fun e w' => e = .returned (.bool true) ∧ Ext W w') := fun y z W hy hz h h' => by
    refine (bools_any y z W h h').mono ?_
    rintro e w' ⟨rfl, q⟩
    refine ⟨ret_bool ?_, q.ext⟩
    rw [hy, hz]
    simp
  have hz1 : ¬ (12 : Int) ≤ (x.l.length : Int) := by omega
  have hz2 : ¬ (a : Int) < 0 := by omega
  have hz3 : ¬ (a : Int) > (x.l.length : Int) + 1 := by omega
  simp only [Wd.v] at *
  clear hx
  generalize fl a x.l = R at *
  generalize x.l.length = n at *
  go_enter Try.func5, Try.ntmps5
  go_wp2_with fail
  refine c1.mono ?_
  rintro e w1 ⟨v, rfl, O⟩
  obtain ⟨y, rfl, hy, hb⟩ := O.bits
  have E : Hid (Ext w w1) := O.1
  have Y : Hid (y.l = R ∧ Bits w1 y) := ⟨hy, hb⟩
  clear c1 hy hb O
  go_wp2_with fail
  refine (c2.out w1 E.out).mono ?_
  rintro e w2 ⟨z, rfl, hz, hb, E2⟩
  have Z : Hid (z.l = R ∧ Bits w2 z) := ⟨hz, hb⟩
  have Y2 : Hid (y.l = R ∧ Bits w2 y) := ⟨Y.out.1, Y.out.2.ext E2⟩
  have E' : Hid (Ext w w2) := E.out.trans E2
  clear c2 hz hb E2 E Y
  go_wp2_with fail
  refine (c3.out y z w2 Y2.out.1 Z.out.1 Y2.out.2 Z.out.2).mono ?_
  rintro e w3 ⟨rfl, E3⟩
  have E4 : Hid (Ext w w3) := E'.out.trans E3
  clear c3 E3 E' Y2 Z
  go_wp2
  go_ret
  exact ⟨rfl, E4.out⟩

theorem dropFills_walk (a : Int) (x : Wd) (w : World) (hx : Bits w x) : Calls Try.prog 5 #[.int .i64 a, x.v] w fun e w' => e = .returned (.bool true) ∧ Ext w w' := by
  by_cases h : 12 ≤ x.l.length
  · exact dropFills_large a x h w hx
  · by_cases h0 : a < 0
    · exact dropFills_low a x (by omega) h0 w
    · by_cases h1 : (x.l.length : Int) + 1 < a
      · exact dropFills_high a x (by omega) h0 h1 w
      · obtain ⟨b, rfl⟩ := Int.eq_ofNat_of_zero_le (show 0 ≤ a by omega)
        exact dropFills_good b x (by omega) (by omega) w hx

set_option maxRecDepth 100000 in
theorem dropFills_lifted (os : Os) (started : os.Started) (H : Type) (enc : TypeId × Value → H) :
    ReturnsInHanded {} Try.checked os 5 .any (Rows.dropFillsSpec.pre6 enc Try.prog Try.f5 Rows.dropFillsRow.domain false) (Rows.dropFillsSpec.post enc Try.prog Try.f5 false true false false) := by
  refine returnsInHanded_of_change (C := Try.checked) own started (by kernel_rfl) Try.func5
    (ChangeSpec.witness6 (enc := enc) (C := Try.checked) false ⟨#[], #[.int .i64 0, .slice none 0 0], []⟩ 8 (by kernel_rfl) (by kernel_rfl) (by kernel_rfl) (by kernel_rfl)) ?_
  intro W base args ds gs before hval0 hW _ _
  have hval : ∀ (j : Nat) t v, Try.f5.params[j]? = some t → args[j]? = some v → Value.okWide Try.prog W .any base t v := hval0
  have hW' := hW
  obtain ⟨p, q, hA0, hV, rfl, hfz, hnd⟩ := hW
  have hA : DataW.TrodAll enc Try.prog W 0 (fun _ => true) true Try.f5.params.toList args.toList ds p := hA0
  rw [Try.params5] at hA hval
  obtain ⟨v0, vs0, d0, ds0, p0, q0, hargs, rfl, rfl, h0, r0⟩ := trodAll_cons hA
  obtain ⟨v1, vs1, d1, ds1, p1, q1, rfl, rfl, rfl, h1, r1⟩ := trodAll_cons r0
  obtain ⟨rfl, rfl, rfl⟩ := trodAll_nil r1
  obtain rfl : args = #[v0, v1] := by cases args; simp_all
  obtain ⟨rfl, rfl⟩ := trodVars_none hV
  have lt0 : ∀ x ∈ p0, x.block < W.heap.size := by obtain ⟨m, hm⟩ := h0; exact DataW.trod_lt m _ _ _ hm
  obtain ⟨x0, rfl, -, -, wf0⟩ := open_int Try.underlying3 (hval 0 3 v0 rfl rfl) h0
  have lt1 : ∀ x ∈ p1, x.block < W.heap.size := by obtain ⟨m, hm⟩ := h1; exact DataW.trod_lt m _ _ _ hm
  obtain ⟨x1, rfl, w1⟩ := open_word (hval 1 22 v1 rfl rfl) h1
  clear hA0 hval0
  refine (dropFills_walk x0 x1 W w1).mono fun e W' ⟨he, bel⟩ => ?_
  subst he
  exact ⟨_, rfl, _, _, _, [], _, [], hW', trodAll_mk1 (shut_bool Try.underlying4 _), (trodAll_cons_mk (Below.trod laidOut (by kernel_rfl) (of_decide_eq_true (by kernel_rfl)) h0 bel lt0) (trodAll_cons_mk (Below.trod laidOut (by kernel_rfl) (of_decide_eq_true (by kernel_rfl)) h1 bel lt1) trodAll_mk0)), rfl, bel.frame _, fun h => by cases h⟩

theorem dropFills_holds : Rows.DropFillsSaid :=
  OpenClaim.holds_of_wide 5 Try.f5 rfl rfl rfl rfl rfl rfl rfl ⟨rfl, rfl, rfl, rfl, rfl⟩ rfl rfl rfl rfl rfl (by kernel_rfl) Try.func5 (by kernel_rfl)
    (of_decide_eq_true (by kernel_rfl)) (by unfold Func.isWrapper; rw [if_neg (of_decide_eq_false (by kernel_rfl))]; exact ⟨rfl, rfl⟩)
    (fun os started H enc _ => dropFills_lifted os started H enc)

#print axioms dropFills_holds

end Go.Proofs.Ytofdinddloejbaa
