/-
  For any bits, any one of which is gone, the program tells them by their sum: DropBack returns true for every list of bits and every number, and changes nothing.
-/
import Derived.Test.YtofdinddloejbaaOpen
import Derived.Test.YtofdinddloejbaaEq
import Derived.Test.YtofdinddloejbaaFi
import Derived.ProofKit
namespace Go.Proofs.Ytofdinddloejbaa
open Go.ChangeShapes Go.WideShapes Go.ChangeAt Go.RowKit Go.Deep
set_option linter.unusedVariables false

theorem u8_of {x : Int} (h : (Lit.int .u8 x).wf = true) : 0 ≤ x ∧ x < 256 := by
  have b : IntKind.u8.min = 0 ∧ IntKind.u8.max = 255 := by decide
  simp only [Lit.wf, b, Bool.and_eq_true, decide_eq_true_eq] at h
  omega
theorem rem_at (k n : Nat) : (k : Int).tmod (n : Int) = ((k % n : Nat) : Int) := (Int.ofNat_tmod k n).symm

set_option maxRecDepth 100000 in
theorem dropBack_large (x : Wd) (hl : 12 < x.l.length) (k : Int) (w : World) : Calls Try.prog 6 #[x.v, .int .u8 k] w fun e w' => e = .returned (.bool true) ∧ Ext w w' := by
  have c1 := Sum_large x hl w
  have hz : (12 : Int) < (x.l.length : Int) := by omega
  simp only [Wd.v] at *
  generalize x.l.length = n at *
  go_enter Try.func6, Try.ntmps6
  go_wp2_with fail
  refine c1.mono ?_
  rintro e w1 ⟨rfl, rfl⟩
  clear c1
  go_wp2
  go_ret
  exact ⟨rfl, Ext.refl _⟩

set_option maxRecDepth 100000 in
theorem dropBack_none (x : Wd) (hl : x.l.length = 0) (k : Int) (w : World) (hx : Bits w x) : Calls Try.prog 6 #[x.v, .int .u8 k] w fun e w' => e = .returned (.bool true) ∧ Ext w w' := by
  have c1 := Sum_good x (by omega) w hx
  rw [show sm x.l = 0 by rw [List.eq_nil_of_length_eq_zero hl]; rfl] at c1
  simp only [Wd.v] at *
  rw [hl] at *
  go_enter Try.func6, Try.ntmps6
  go_wp2_with fail
  refine c1.mono ?_
  rintro e w1 ⟨rfl, rfl⟩
  clear c1
  go_wp2
  go_ret
  exact ⟨rfl, Ext.refl _⟩

set_option maxRecDepth 100000 in
theorem dropBack_good (x : Wd) (hl : x.l.length ≤ 12) (h0 : 0 < x.l.length) (k : Nat) (hk : k < 256) (w : World) (hx : Bits w x) : Calls Try.prog 6 #[x.v, .int .u8 k] w fun e w' => e = .returned (.bool true) ∧ Ext w w' := by
  have c1 := Sum_good x hl w hx
  have hm : k % x.l.length < x.l.length := Nat.mod_lt _ h0
  have c2 := without_any x (k % x.l.length) hm (by omega) w hx
  have hw := wo_len hm
  have hf := fl_wo hm
  have hs := sm_le x.l
  have c3 : Hid (∀ (y : Wd) (W : World), y.l = wo (k % x.l.length) x.l → Bits W y → Calls Try.prog 15 #[.int .i64 (sm x.l : Nat), y.v] W fun e w' => ∃ v, e = .returned (.tuple #[v, .int .i64 0]) ∧ OwnB W w' v x.l) := fun y W hy hb => by
    have := Fill_good (sm x.l) y (by rw [hy]; omega) (by rw [hy]; omega) W hb
    rw [hy, hf] at this
    exact this
  have c4 : Hid (∀ (y : Wd) (W : World), y.l = x.l → Ext w W → Bits W y → Calls Try.prog 17 #[y.v, x.v] W fun e w' => e = .returned (.bool true) ∧ Ext W w') := fun y W hy E h => by
    refine (bools_any y x W h (hx.ext E)).mono ?_
    rintro e w' ⟨rfl, q⟩
    refine ⟨ret_bool ?_, q.ext⟩
    rw [hy]
    simp
  have hr := rem_at k x.l.length
  have hz1 : ¬ (12 : Int) < (x.l.length : Int) := by omega
  have hz2 : ¬ (x.l.length : Int) = 0 := by omega
  clear hx hw hf hs
  generalize wo (k % x.l.length) x.l = R at *
  generalize sm x.l = s at *
  simp only [Wd.v] at *
  generalize x.l = l at *
  generalize l.length = n at *
  generalize k % n = q at *
  go_enter Try.func6, Try.ntmps6
  go_wp2_with fail
  refine c1.mono ?_
  rintro e w1 ⟨rfl, rfl⟩
  clear c1
  go_wp2_with fail
  refine c2.mono ?_
  rintro e w2 ⟨v, rfl, O⟩
  obtain ⟨y, rfl, hy, hb⟩ := O.bits
  have E : Hid (Ext w1 w2) := O.1
  have c5 : Hid (Calls Try.prog 15 #[.int .i64 (s : Nat), y.v] w2 fun e w' => ∃ v, e = .returned (.tuple #[v, .int .i64 0]) ∧ OwnB w2 w' v l) := c3.out y w2 hy hb
  clear c2 c3 hy hb O
  go_wp2_with fail
  refine c5.out.mono ?_
  rintro e w3 ⟨v, rfl, O⟩
  obtain ⟨z, rfl, hz, hb⟩ := O.bits
  have E3 : Hid (Ext w1 w3) := E.out.trans O.1
  have c6 := c4.out z w3 hz E3.out hb
  clear c4 c5 hz hb O E
  go_wp2_with fail
  refine c6.mono ?_
  rintro e w4 ⟨rfl, E4⟩
  have E5 : Hid (Ext w1 w4) := E3.out.trans E4
  clear c6 E4 E3
  go_wp2
  go_ret
  exact ⟨rfl, E5.out⟩

theorem dropBack_walk (x : Wd) (k : Int) (hk : (Lit.int .u8 k).wf = true) (w : World) (hx : Bits w x) : Calls Try.prog 6 #[x.v, .int .u8 k] w fun e w' => e = .returned (.bool true) ∧ Ext w w' := by
  by_cases h : 12 < x.l.length
  · exact dropBack_large x h k w
  · by_cases h0 : x.l.length = 0
    · exact dropBack_none x h0 k w hx
    · obtain ⟨k1, k2⟩ := u8_of hk
      obtain ⟨b, rfl⟩ := Int.eq_ofNat_of_zero_le k1
      exact dropBack_good x (by omega) (by omega) b (by omega) w hx

set_option maxRecDepth 100000 in
theorem dropBack_lifted (os : Os) (started : os.Started) (H : Type) (enc : TypeId × Value → H) :
    ReturnsInHanded {} Try.checked os 6 .any (Rows.dropBackSpec.pre6 enc Try.prog Try.f6 Rows.dropBackRow.domain false) (Rows.dropBackSpec.post enc Try.prog Try.f6 false true false false) := by
  refine returnsInHanded_of_change (C := Try.checked) own started (by kernel_rfl) Try.func6
    (ChangeSpec.witness6 (enc := enc) (C := Try.checked) false ⟨#[], #[.slice none 0 0, .int .u8 0], []⟩ 8 (by kernel_rfl) (by kernel_rfl) (by kernel_rfl) (by kernel_rfl)) ?_
  intro W base args ds gs before hval0 hW _ _
  have hval : ∀ (j : Nat) t v, Try.f6.params[j]? = some t → args[j]? = some v → Value.okWide Try.prog W .any base t v := hval0
  have hW' := hW
  obtain ⟨p, q, hA0, hV, rfl, hfz, hnd⟩ := hW
  have hA : DataW.TrodAll enc Try.prog W 0 (fun _ => true) true Try.f6.params.toList args.toList ds p := hA0
  rw [Try.params6] at hA hval
  obtain ⟨v0, vs0, d0, ds0, p0, q0, hargs, rfl, rfl, h0, r0⟩ := trodAll_cons hA
  obtain ⟨v1, vs1, d1, ds1, p1, q1, rfl, rfl, rfl, h1, r1⟩ := trodAll_cons r0
  obtain ⟨rfl, rfl, rfl⟩ := trodAll_nil r1
  obtain rfl : args = #[v0, v1] := by cases args; simp_all
  obtain ⟨rfl, rfl⟩ := trodVars_none hV
  have lt0 : ∀ x ∈ p0, x.block < W.heap.size := by obtain ⟨m, hm⟩ := h0; exact DataW.trod_lt m _ _ _ hm
  obtain ⟨x0, rfl, w0⟩ := open_word (hval 0 22 v0 rfl rfl) h0
  have lt1 : ∀ x ∈ p1, x.block < W.heap.size := by obtain ⟨m, hm⟩ := h1; exact DataW.trod_lt m _ _ _ hm
  obtain ⟨x1, rfl, -, -, wf1⟩ := open_int Try.underlying5 (hval 1 5 v1 rfl rfl) h1
  clear hA0 hval0
  refine (dropBack_walk x0 x1 wf1 W w0).mono fun e W' ⟨he, bel⟩ => ?_
  subst he
  exact ⟨_, rfl, _, _, _, [], _, [], hW', trodAll_mk1 (shut_bool Try.underlying4 _), (trodAll_cons_mk (Below.trod laidOut (by kernel_rfl) (of_decide_eq_true (by kernel_rfl)) h0 bel lt0) (trodAll_cons_mk (Below.trod laidOut (by kernel_rfl) (of_decide_eq_true (by kernel_rfl)) h1 bel lt1) trodAll_mk0)), rfl, bel.frame _, fun h => by cases h⟩

theorem dropBack_holds : Rows.DropBackSaid :=
  OpenClaim.holds_of_wide 6 Try.f6 rfl rfl rfl rfl rfl rfl rfl ⟨rfl, rfl, rfl, rfl, rfl⟩ rfl rfl rfl rfl rfl (by kernel_rfl) Try.func6 (by kernel_rfl)
    (of_decide_eq_true (by kernel_rfl)) (by unfold Func.isWrapper; rw [if_neg (of_decide_eq_false (by kernel_rfl))]; exact ⟨rfl, rfl⟩)
    (fun os started H enc _ => dropBack_lifted os started H enc)

#print axioms dropBack_holds

end Go.Proofs.Ytofdinddloejbaa
