/-
  For any parts and any number: state.Take tells of which number and which symbol it has come: StateTakes returns true for every list of parts and every number, and changes nothing.
-/
import Derived.Test.YtchnlbanhkigjaaOpen
import Derived.Test.YtchnlbanhkigjaaRf
namespace Go.Proofs.Ytchnlbanhkigjaa
open Go.ChangeShapes Go.WideShapes Go.ChangeAt Go.RowKit Go.Deep
set_option linter.unusedVariables false

theorem stateTakes_walk (p : Nm) (x : Int) (w : World) (hp : Nums w p) : Calls Try.prog 4 #[p.v, .int .i64 x] w fun e w' => e = .returned (.bool true) ∧ Ext w w' := by
  have c1 := stake_any p x w hp
  have c2 : Hid (∀ W, Ext w W → Calls Try.prog 10 #[p.v, .int .i64 x] W fun e w' => e = .returned (.int .i64 (pxe p.z x)) ∧ w' = W) := fun W e => parts_any p x W (hp.ext e)
  by_cases h : pxe p.z x = 0
  · obtain ⟨hh1, hh2, hh3⟩ := pxe_ok h
    obtain ⟨b, o, g⟩ := good_parts hp hh1
    have e1 : tkv p.z x = tx (nt p.z) x.toNat := if_pos h
    have e2 : tks p.z x = ts (nt p.z) x.toNat := if_pos h
    rw [e1, e2, h] at c1
    rw [h] at c2
    obtain ⟨y, rfl⟩ : ∃ y : Nat, x = y := ⟨x.toNat, by omega⟩
    rw [Int.toNat_natCast] at c1
    have c3 : Hid (∀ W, Ext w W → Calls Try.prog 13 #[p.v, .int .i64 y] W fun e w' => e = .returned (.tuple #[.int .i64 (tx (nt p.z) y : Nat), .int .i64 (ts (nt p.z) y : Nat)]) ∧ Ext W w') := fun W e => by
      rw [g.v]
      exact rtake_any b o _ p.c (nt p.z) y W rfl g.few g.one g.most (by omega) (g.pa.ext e)
    obtain ⟨a, n, c, hv⟩ : ∃ a n c, p.v = .slice a n c := ⟨_, _, _, rfl⟩
    rw [hv] at c1 c2 c3 ⊢
    generalize tx (nt p.z) y = V at *
    generalize ts (nt p.z) y = S at *
    clear h hp hv g e1 e2 hh1
    go_enter Try.func4, Try.ntmps4
    go_wp2_with fail
    refine c1.mono ?_
    rintro e w1 ⟨rfl, hq⟩
    have E1 : Hid (Ext w w1) := hq.ext
    clear c1 hq
    go_wp2_with fail
    refine (c2.out w1 E1.out).mono ?_
    rintro e w2 ⟨rfl, rfl⟩
    clear c2
    go_wp2_with fail
    refine (c3.out w2 E1.out).mono ?_
    rintro e w3 ⟨rfl, hq⟩
    have E3 : Hid (Ext w w3) := E1.out.trans hq
    clear hq c3
    go_wp2
    go_ret
    exact ⟨ret_bool (by simp), E3.out⟩
  · have e1 : tkv p.z x = 0 := if_neg h
    have e2 : tks p.z x = 0 := if_neg h
    rw [e1, e2] at c1
    have hE : (pxe p.z x == 0) = false := by rw [beq_eq_false_iff_ne]; exact h
    have hE2 : (pxe p.z x != 0) = true := by rw [bne_iff_ne]; exact h
    obtain ⟨a, n, c, hv⟩ : ∃ a n c, p.v = .slice a n c := ⟨_, _, _, rfl⟩
    rw [hv] at c1 c2 ⊢
    generalize pxe p.z x = E at *
    clear h hp hv e1 e2
    go_enter Try.func4, Try.ntmps4
    go_wp2_with fail
    refine c1.mono ?_
    rintro e w1 ⟨rfl, hq⟩
    have E1 : Hid (Ext w w1) := hq.ext
    clear c1 hq
    go_wp2_with fail
    refine (c2.out w1 E1.out).mono ?_
    rintro e w2 ⟨rfl, rfl⟩
    clear c2
    go_wp2
    go_ret
    exact ⟨ret_bool (by simp), E1.out⟩

set_option maxRecDepth 100000 in
theorem stateTakes_lifted (os : Os) (started : os.Started) (H : Type) (enc : TypeId × Value → H) :
    ReturnsInHanded {} Try.checked os 4 .any (Rows.stateTakesSpec.pre6 enc Try.prog Try.f4 Rows.stateTakesRow.domain false) (Rows.stateTakesSpec.post enc Try.prog Try.f4 false true false false) := by
  refine returnsInHanded_of_change (C := Try.checked) own started (by kernel_rfl) Try.func4
    (ChangeSpec.witness6 (enc := enc) (C := Try.checked) false ⟨#[], #[.slice none 0 0, .int .i64 0], []⟩ 8 (by kernel_rfl) (by kernel_rfl) (by kernel_rfl) (by kernel_rfl)) ?_
  intro W base args ds gs before hval0 hW _ _
  have hval : ∀ (j : Nat) t v, Try.f4.params[j]? = some t → args[j]? = some v → Value.okWide Try.prog W .any base t v := hval0
  have hW' := hW
  obtain ⟨p, q, hA0, hV, rfl, hfz, hnd⟩ := hW
  have hA : DataW.TrodAll enc Try.prog W 0 (fun _ => true) true Try.f4.params.toList args.toList ds p := hA0
  rw [Try.params4] at hA hval
  obtain ⟨v0, vs0, d0, ds0, p0, q0, hargs, rfl, rfl, h0, r0⟩ := trodAll_cons hA
  obtain ⟨v1, vs1, d1, ds1, p1, q1, rfl, rfl, rfl, h1, r1⟩ := trodAll_cons r0
  obtain ⟨rfl, rfl, rfl⟩ := trodAll_nil r1
  obtain rfl : args = #[v0, v1] := by cases args; simp_all
  obtain ⟨rfl, rfl⟩ := trodVars_none hV
  have lt0 : ∀ x ∈ p0, x.block < W.heap.size := by obtain ⟨m, hm⟩ := h0; exact DataW.trod_lt m _ _ _ hm
  obtain ⟨x0, rfl, w0⟩ := open_syms (hval 0 22 v0 rfl rfl) h0
  have lt1 : ∀ x ∈ p1, x.block < W.heap.size := by obtain ⟨m, hm⟩ := h1; exact DataW.trod_lt m _ _ _ hm
  obtain ⟨x1, rfl, -, -, wf1⟩ := open_int Try.underlying2 (hval 1 2 v1 rfl rfl) h1
  clear hA0 hval0
  refine (stateTakes_walk x0 x1 W w0).mono fun e W' ⟨he, bel⟩ => ?_
  subst he
  exact ⟨_, rfl, _, _, _, [], _, [], hW', trodAll_mk1 (shut_bool Try.underlying4 _), (trodAll_cons_mk (Below.trod laidOut (by kernel_rfl) (of_decide_eq_true (by kernel_rfl)) h0 bel lt0) (trodAll_cons_mk (Below.trod laidOut (by kernel_rfl) (of_decide_eq_true (by kernel_rfl)) h1 bel lt1) trodAll_mk0)), rfl, bel.frame _, fun h => by cases h⟩

theorem stateTakes_holds : Rows.StateTakesSaid :=
  OpenClaim.holds_of_wide 4 Try.f4 rfl rfl rfl rfl rfl rfl rfl ⟨rfl, rfl, rfl, rfl, rfl⟩ rfl rfl rfl rfl rfl (by kernel_rfl) Try.func4 (by kernel_rfl)
    (of_decide_eq_true (by kernel_rfl)) (by unfold Func.isWrapper; rw [if_neg (of_decide_eq_false (by kernel_rfl))]; exact ⟨rfl, rfl⟩)
    (fun os started H enc _ => stateTakes_lifted os started H enc)

#print axioms stateTakes_holds

end Go.Proofs.Ytchnlbanhkigjaa
