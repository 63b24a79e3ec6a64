/-
  For any number the program tells its Delta: EliasDeltas returns true for every number, and changes nothing.
-/
import Derived.Test.YtenpinjbeejamaaOpen
import Derived.Test.YtenpinjbeejamaaRfg
namespace Go.Proofs.Ytenpinjbeejamaa
open Go.ChangeShapes Go.WideShapes Go.ChangeAt Go.RowKit Go.Deep
set_option linter.unusedVariables false

set_option maxHeartbeats 2000000 in
theorem eliasDeltas_walk (n : Int) (w : World) : Calls Try.prog 4 #[.int .i64 n] w fun e w' => e = .returned (.bool true) ∧ Ext w w' := by
  by_cases hr : 1 ≤ n ∧ n ≤ 1048576
  · obtain ⟨m, rfl⟩ := Int.eq_ofNat_of_zero_le (show 0 ≤ n by omega)
    have h0 : m ≠ 0 := by omega
    have hn : m ≤ 1048576 := by omega
    have hg := Delta_good m h0 hn w
    have hrf : Hid (∀ W, Calls Try.prog 13 #[.int .i64 (m : Int)] W fun e w' => ∃ v, e = .returned v ∧ Told W w' v (del m)) := fun W => refDelta_any m h0 hn W
    have hb1 : ¬ ((m : Int) < 1) := by omega
    have hb2 : ¬ ((m : Int) > 1048576) := by omega
    clear hr
    generalize del m = D at *
    go_enter Try.func4, Try.ntmps4
    go_wp2_with fail
    refine hg.mono ?_
    rintro e w1 ⟨v, rfl, ⟨x, rfl, hx, hbx⟩, he⟩
    have HX : Hid (x.l = D ∧ Bits w1 x) := ⟨hx, hbx⟩
    have HE : Hid (Ext w w1) := he
    clear hg hx hbx he
    go_wp2_with fail
    refine (hrf.out w1).mono ?_
    rintro e w2 ⟨v, rfl, ⟨y, rfl, hy, hby⟩, he⟩
    have hbl := bools_any x y w2 (HX.out.2.ext he) hby
    rw [HX.out.1, hy, beq_self_eq_true] at hbl
    have HE2 : Hid (Ext w w2) := HE.out.trans he
    clear hrf hy hby he HX HE
    go_wp2_with fail
    refine hbl.mono ?_
    rintro e w3 ⟨rfl, hq⟩
    have HE3 : Hid (Ext w w3) := HE2.out.trans hq.ext
    clear hq hbl HE2
    go_wp2
    go_ret
    exact ⟨rfl, HE3.out⟩
  · have hg := Delta_bad n hr w
    by_cases h1 : n < 1
    · clear hr
      go_enter Try.func4, Try.ntmps4
      go_wp2_with fail
      refine hg.mono ?_
      rintro e w1 ⟨rfl, rfl⟩
      clear hg
      go_wp2
      go_ret
      exact ⟨rfl, Ext.refl _⟩
    · have h2 : n > 1048576 := by omega
      clear hr
      go_enter Try.func4, Try.ntmps4
      go_wp2_with fail
      refine hg.mono ?_
      rintro e w1 ⟨rfl, rfl⟩
      clear hg
      go_wp2
      go_ret
      exact ⟨rfl, Ext.refl _⟩

set_option maxRecDepth 100000 in
theorem eliasDeltas_lifted (os : Os) (started : os.Started) (H : Type) (enc : TypeId × Value → H) :
    ReturnsInHanded {} Try.checked os 4 .any (Rows.eliasDeltasSpec.pre6 enc Try.prog Try.f4 Rows.eliasDeltasRow.domain false) (Rows.eliasDeltasSpec.post enc Try.prog Try.f4 false true false false) := by
  refine returnsInHanded_of_change (C := Try.checked) own started (by kernel_rfl) Try.func4
    (ChangeSpec.witness6 (enc := enc) (C := Try.checked) false ⟨#[], #[.int .i64 0], []⟩ 8 (by kernel_rfl) (by kernel_rfl) (by kernel_rfl) (by kernel_rfl)) ?_
  intro W base args ds gs before hval0 hW _ _
  have hval : ∀ (j : Nat) t v, Try.f4.params[j]? = some t → args[j]? = some v → Value.okWide Try.prog W .any base t v := hval0
  have hW' := hW
  obtain ⟨p, q, hA0, hV, rfl, hfz, hnd⟩ := hW
  have hA : DataW.TrodAll enc Try.prog W 0 (fun _ => true) true Try.f4.params.toList args.toList ds p := hA0
  rw [Try.params4] at hA hval
  obtain ⟨v0, vs0, d0, ds0, p0, q0, hargs, rfl, rfl, h0, r0⟩ := trodAll_cons hA
  obtain ⟨rfl, rfl, rfl⟩ := trodAll_nil r0
  obtain rfl : args = #[v0] := by cases args; simp_all
  obtain ⟨rfl, rfl⟩ := trodVars_none hV
  have lt0 : ∀ x ∈ p0, x.block < W.heap.size := by obtain ⟨m, hm⟩ := h0; exact DataW.trod_lt m _ _ _ hm
  obtain ⟨x0, rfl, -, -, wf0⟩ := open_int Try.underlying3 (hval 0 3 v0 rfl rfl) h0
  clear hA0 hval0
  refine (eliasDeltas_walk x0 W).mono fun e W' ⟨he, bel⟩ => ?_
  subst he
  exact ⟨_, rfl, _, _, _, [], _, [], hW', trodAll_mk1 (shut_bool Try.underlying4 _), (trodAll_cons_mk (Below.trod laidOut (by kernel_rfl) (of_decide_eq_true (by kernel_rfl)) h0 bel lt0) trodAll_mk0), rfl, bel.frame _, fun h => by cases h⟩

theorem eliasDeltas_holds : Rows.EliasDeltasSaid :=
  OpenClaim.holds_of_wide 4 Try.f4 rfl rfl rfl rfl rfl rfl rfl ⟨rfl, rfl, rfl, rfl, rfl⟩ rfl rfl rfl rfl rfl (by kernel_rfl) Try.func4 (by kernel_rfl)
    (of_decide_eq_true (by kernel_rfl)) (by unfold Func.isWrapper; rw [if_neg (of_decide_eq_false (by kernel_rfl))]; exact ⟨rfl, rfl⟩)
    (fun os started H enc _ => eliasDeltas_lifted os started H enc)

#print axioms eliasDeltas_holds

end Go.Proofs.Ytenpinjbeejamaa
