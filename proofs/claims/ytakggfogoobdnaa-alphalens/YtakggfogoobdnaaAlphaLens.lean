/-
  For any weights the program tells the first lengths of words of a code that rises and costs least: AlphaLens returns true for every list of weights, and changes nothing.
-/
import Derived.Test.YtakggfogoobdnaaOpn
import Derived.Test.YtakggfogoobdnaaAco
import Derived.Test.YtakggfogoobdnaaAlf
import Derived.Test.YtakggfogoobdnaaInts
namespace Go.Proofs.Ytakggfogoobdnaa
open Go.ChangeShapes Go.WideShapes Go.ChangeAt Go.RowKit Go.Deep
set_option linter.unusedVariables false

set_option maxHeartbeats 2000000 in
theorem alphaLens_walk (x : Nm) (w : World) (hx : Nums w x) : Calls Try.prog 4 #[x.v] w fun e w' => e = .returned (.bool true) ∧ Ext w w' := by
  have HWC : Hid (∀ W, Ext w W → Calls Try.prog 10 #[x.v] W fun e w' => e = .returned (.int .i64 (werl x.z)) ∧ w' = W) := fun W e => weightsCheck_any x W (hx.ext e)
  by_cases hok : werl x.z = 0
  · obtain ⟨v, hxv, h8, _⟩ := werl_lz hok
    have HC := alensG_any x v w hx hxv hok
    have HA : Hid (∀ W, Ext w W → Calls Try.prog 11 #[x.v] W fun e w' => ∃ (l : List Nat) (y : Nm), e = .returned (.tuple #[.int .i64 (dot v l : Nat), y.v]) ∧ y.z = lz l ∧ Nums w' y ∧ Opt v l ∧ Ext W w') := fun W e => alpha_any x v W (hx.ext e) hxv hok
    rw [hok] at HWC
    obtain ⟨a, c, z⟩ := x
    simp only [Nm.v] at *
    clear hx hok hxv
    generalize z.length = n at *
    go_enter Try.func4, Try.ntmps4
    go_wp2_with fail
    refine HC.mono ?_
    rintro e w1 ⟨l1, y1, rfl, hz1, hn1, hO1, hE1⟩
    have HO1 : Hid (Opt v l1 ∧ y1.z = lz l1 ∧ Nums w1 y1) := ⟨hO1, hz1, hn1⟩
    have E1 : Hid (Ext w w1) := hE1
    clear hO1 hE1 HC hz1 hn1
    obtain ⟨ya, yc, yz⟩ := y1
    simp only at *
    obtain ⟨m, hm⟩ : ∃ m, yz.length = m := ⟨_, rfl⟩
    have HM : Hid (yz.length = m) := hm
    rw [hm]
    clear hm
    go_wp2_with fail
    refine (HWC.out w1 E1.out).mono ?_
    rintro e w2 ⟨rfl, rfl⟩
    clear HWC
    go_wp2_with fail
    refine (HA.out w2 E1.out).mono ?_
    rintro e w3 ⟨l2, y2, rfl, hz2, hn2, hO2, hE3⟩
    have hint := ints_any ⟨ya, yc, yz⟩ y2 w3 (HO1.out.2.2.ext hE3) hn2
    have hzz : (yz == y2.z) = true := by
      rw [beq_iff_eq, hz2, ← HO1.out.1.eq hO2]
      exact HO1.out.2.1
    simp only [Nm.v] at hint
    rw [hzz, HM.out] at hint
    have E3 : Hid (Ext w w3) := E1.out.trans hE3
    clear hO2 hE3 HA HO1 hz2 hn2 hzz
    generalize dot v l2 = C at *
    obtain ⟨za, zc, zz⟩ := y2
    simp only at *
    generalize zz.length = k at *
    go_wp2_with fail
    refine hint.mono ?_
    rintro e w4 ⟨rfl, hq⟩
    have E4 : Hid (Ext w w4) := E3.out.trans hq.ext
    clear hq hint
    go_wp2
    go_ret
    exact ⟨rfl, E4.out⟩
  · have HC := alensB_any x w hx hok
    have hr : (werl x.z == 0) = false := by simpa using hok
    clear hx hok
    obtain ⟨a, c, z⟩ := x
    simp only [Nm.v] at *
    generalize werl z = r at *
    generalize z.length = n at *
    go_enter Try.func4, Try.ntmps4
    go_wp2_with fail
    refine HC.mono ?_
    rintro e w1 ⟨rfl, hb⟩
    go_wp2_with fail
    refine (HWC.out w1 hb).mono ?_
    rintro e w2 ⟨rfl, rfl⟩
    go_wp2
    go_ret
    exact ⟨ret_bool (by simp), hb⟩

set_option maxRecDepth 100000 in
theorem alphaLens_lifted (os : Os) (started : os.Started) (H : Type) (enc : TypeId × Value → H) :
    ReturnsInHanded {} Try.checked os 4 .any (Rows.alphaLensSpec.pre6 enc Try.prog Try.f4 Rows.alphaLensRow.domain false) (Rows.alphaLensSpec.post enc Try.prog Try.f4 false true false false) := by
  refine returnsInHanded_of_change (C := Try.checked) own started (by kernel_rfl) Try.func4
    (ChangeSpec.witness6 (enc := enc) (C := Try.checked) false ⟨#[], #[.slice none 0 0], []⟩ 8 (by kernel_rfl) (by kernel_rfl) (by kernel_rfl) (by kernel_rfl)) ?_
  intro W base args ds gs before hval0 hW _ _
  have hval : ∀ (j : Nat) t v, Try.f4.params[j]? = some t → args[j]? = some v → Value.okWide Try.prog W .any base t v := hval0
  have hW' := hW
  obtain ⟨p, q, hA0, hV, rfl, hfz, hnd⟩ := hW
  have hA : DataW.TrodAll enc Try.prog W 0 (fun _ => true) true Try.f4.params.toList args.toList ds p := hA0
  rw [Try.params4] at hA hval
  obtain ⟨v0, vs0, d0, ds0, p0, q0, hargs, rfl, rfl, h0, r0⟩ := trodAll_cons hA
  obtain ⟨rfl, rfl, rfl⟩ := trodAll_nil r0
  obtain rfl : args = #[v0] := by cases args; simp_all
  obtain ⟨rfl, rfl⟩ := trodVars_none hV
  have lt0 : ∀ x ∈ p0, x.block < W.heap.size := by obtain ⟨m, hm⟩ := h0; exact DataW.trod_lt m _ _ _ hm
  obtain ⟨x0, rfl, w0⟩ := open_wts (hval 0 22 v0 rfl rfl) h0
  clear hA0 hval0
  refine (alphaLens_walk x0 W w0).mono fun e W' ⟨he, bel⟩ => ?_
  subst he
  exact ⟨_, rfl, _, _, _, [], _, [], hW', trodAll_mk1 (shut_bool Try.underlying4 _), (trodAll_cons_mk (Below.trod laidOut (by kernel_rfl) (of_decide_eq_true (by kernel_rfl)) h0 bel lt0) trodAll_mk0), rfl, bel.frame _, fun h => by cases h⟩

theorem alphaLens_holds : Rows.AlphaLensSaid :=
  OpenClaim.holds_of_wide 4 Try.f4 rfl rfl rfl rfl rfl rfl rfl ⟨rfl, rfl, rfl, rfl, rfl⟩ rfl rfl rfl rfl rfl (by kernel_rfl) Try.func4 (by kernel_rfl)
    (of_decide_eq_true (by kernel_rfl)) (by unfold Func.isWrapper; rw [if_neg (of_decide_eq_false (by kernel_rfl))]; exact ⟨rfl, rfl⟩)
    (fun os started H enc _ => alphaLens_lifted os started H enc)

#print axioms alphaLens_holds

end Go.Proofs.Ytakggfogoobdnaa
