/-
  For any lengths the program's Sum answers what the document's does: KraftSums returns true for every list of numbers, and changes nothing.
-/
import Derived.Test.YtnjfefipgldkfabOpen
import Derived.Test.YtnjfefipgldkfabSum
namespace Go.Proofs.Ytnjfefipgldkfab
open Go.ChangeShapes Go.WideShapes Go.ChangeAt Go.RowKit Go.Deep
set_option linter.unusedVariables false

set_option maxHeartbeats 400000 in
theorem kraftSums_walk (z : Nm) (w : World) (hz : Nums w z) :
    Calls Try.prog 3 #[z.v] w fun e w' => e = .returned (.bool true) ∧ Ext w w' := by
  have h7 := sum_any z w hz
  have H8 : Hid (∀ W, Ext w W → Calls Try.prog 8 #[z.v] W fun e w' => e = .returned (.int .i64 (lerl z.z)) ∧ w' = W) := fun W e => lensCheck_any z W (hz.ext e)
  by_cases hl : lerl z.z = 0
  · have H9 : Hid (∀ W, Ext w W → Calls Try.prog 9 #[z.v] W fun e w' => e = .returned (.int .i64 (ksum z.z)) ∧ w' = W) := fun W e => kraft_any z W (hz.ext e) hl
    clear hz
    rw [hl] at h7 H8
    clear hl
    simp only [if_true] at h7
    generalize ksum z.z = k at *
    simp only [Nm.v] at *
    generalize z.z.length = n at *
    go_enter Try.func3, Try.ntmps3
    go_wp2_with fail
    refine h7.mono ?_
    rintro e w1 ⟨rfl, hb⟩
    go_wp2_with fail
    refine (H8.out w1 hb).mono ?_
    rintro e w2 ⟨rfl, rfl⟩
    go_wp2_with fail
    refine (H9.out w2 hb).mono ?_
    rintro e w3 ⟨rfl, rfl⟩
    go_wp2
    go_ret
    exact ⟨rfl, hb⟩
  · clear hz
    rw [if_neg hl] at h7
    have hl' : (lerl z.z == 0) = false := by simpa using hl
    have hl2 : (lerl z.z != 0) = true := by simpa using hl
    generalize lerl z.z = k at *
    simp only [Nm.v] at *
    generalize z.z.length = n at *
    go_enter Try.func3, Try.ntmps3
    go_wp2_with fail
    refine h7.mono ?_
    rintro e w1 ⟨rfl, hb⟩
    go_wp2_with fail
    refine (H8.out w1 hb).mono ?_
    rintro e w2 ⟨rfl, rfl⟩
    go_wp2
    go_ret
    exact ⟨rfl, hb⟩

set_option maxRecDepth 100000 in
theorem kraftSums_lifted (os : Os) (started : os.Started) (H : Type) (enc : TypeId × Value → H) :
    ReturnsInHanded {} Try.checked os 3 .any (Rows.kraftSumsSpec.pre6 enc Try.prog Try.f3 Rows.kraftSumsRow.domain false) (Rows.kraftSumsSpec.post enc Try.prog Try.f3 false true false false) := by
  refine returnsInHanded_of_change (C := Try.checked) own started (by kernel_rfl) Try.func3
    (ChangeSpec.witness6 (enc := enc) (C := Try.checked) false ⟨#[], #[.slice none 0 0], []⟩ 8 (by kernel_rfl) (by kernel_rfl) (by kernel_rfl) (by kernel_rfl)) ?_
  intro W base args ds gs before hval0 hW _ _
  have hval : ∀ (j : Nat) t v, Try.f3.params[j]? = some t → args[j]? = some v → Value.okWide Try.prog W .any base t v := hval0
  have hW' := hW
  obtain ⟨p, q, hA0, hV, rfl, hfz, hnd⟩ := hW
  have hA : DataW.TrodAll enc Try.prog W 0 (fun _ => true) true Try.f3.params.toList args.toList ds p := hA0
  rw [Try.params3] at hA hval
  obtain ⟨v0, vs0, d0, ds0, p0, q0, hargs, rfl, rfl, h0, r0⟩ := trodAll_cons hA
  obtain ⟨rfl, rfl, rfl⟩ := trodAll_nil r0
  obtain rfl : args = #[v0] := by cases args; simp_all
  obtain ⟨rfl, rfl⟩ := trodVars_none hV
  have lt0 : ∀ x ∈ p0, x.block < W.heap.size := by obtain ⟨m, hm⟩ := h0; exact DataW.trod_lt m _ _ _ hm
  obtain ⟨x0, rfl, w0⟩ := open_syms (hval 0 22 v0 rfl rfl) h0
  clear hA0 hval0
  refine (kraftSums_walk x0 W w0).mono fun e W' ⟨he, bel⟩ => ?_
  subst he
  exact ⟨_, rfl, _, _, _, [], _, [], hW', trodAll_mk1 (shut_bool Try.underlying4 _), (trodAll_cons_mk (Below.trod laidOut (by kernel_rfl) (of_decide_eq_true (by kernel_rfl)) h0 bel lt0) trodAll_mk0), rfl, bel.frame _, fun h => by cases h⟩

theorem kraftSums_holds : Rows.KraftSumsSaid :=
  OpenClaim.holds_of_wide 3 Try.f3 rfl rfl rfl rfl rfl rfl rfl ⟨rfl, rfl, rfl, rfl, rfl⟩ rfl rfl rfl rfl rfl (by kernel_rfl) Try.func3 (by kernel_rfl)
    (of_decide_eq_true (by kernel_rfl)) (by unfold Func.isWrapper; rw [if_neg (of_decide_eq_false (by kernel_rfl))]; exact ⟨rfl, rfl⟩)
    (fun os started H enc _ => kraftSums_lifted os started H enc)

#print axioms kraftSums_holds

end Go.Proofs.Ytnjfefipgldkfab
