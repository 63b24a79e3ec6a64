/-
  For any code the program tells whether no word begins another one, as the document does: PrefixTells returns true for every list of lists of bits, and changes nothing.
-/
import Derived.Test.YtfelbgilhhmbnaaOpen
import Derived.Test.YtfelbgilhhmbnaaRefPrefix
namespace Go.Proofs.Ytfelbgilhhmbnaa
open Go.ChangeShapes Go.WideShapes Go.ChangeAt Go.RowKit Go.Deep
set_option linter.unusedVariables false

set_option maxHeartbeats 400000 in
theorem prefixTells_walk (a : Option Addr) (c : Nat) (g : List Wd) (w : World) (hg : Wds w a c g) :
    Calls Try.prog 3 #[.slice a g.length c] w fun e w' => e = .returned (.bool true) ∧ Ext w w' := by
  have h11 := prefix_any a c g w hg
  have H10 : Hid (∀ W, Ext w W → Calls Try.prog 9 #[.slice a g.length c] W fun e w' => e = .returned (.int .i64 (erl g)) ∧ w' = W) := fun W e => codeCheck_any a c g W (hg.ext e)
  have H12 : Hid (∀ W, Ext w W → Calls Try.prog 10 #[.slice a g.length c] W fun e w' => e = .returned (.bool (free g)) ∧ Qt W w') := fun W e => refPrefix_any a c g W (hg.ext e)
  clear hg
  have he : erl g = 1 ∨ erl g = 0 := by unfold erl; split <;> simp
  generalize free g = r at *
  generalize g.length = n at *
  rcases he with he | he
  all_goals
    rw [he] at h11 H10
    clear he
    go_enter Try.func3, Try.ntmps3
    go_wp2_with fail
    refine h11.mono ?_
    rintro e w1 ⟨rfl, hb⟩
    go_wp2_with fail
    refine (H10.out w1 hb).mono ?_
    rintro e w2 ⟨rfl, rfl⟩
  · go_wp2
    go_ret
    exact ⟨rfl, hb⟩
  · go_wp2_with fail
    refine (H12.out _ hb).mono ?_
    rintro e w3 ⟨rfl, hb2⟩
    go_wp2
    go_ret
    exact ⟨ret_bool (by simp), hb.trans hb2.ext⟩

set_option maxRecDepth 100000 in
theorem prefixTells_lifted (os : Os) (started : os.Started) (H : Type) (enc : TypeId × Value → H) :
    ReturnsInHanded {} Try.checked os 3 .any (Rows.prefixTellsSpec.pre6 enc Try.prog Try.f3 Rows.prefixTellsRow.domain false) (Rows.prefixTellsSpec.post enc Try.prog Try.f3 false true false false) := by
  refine returnsInHanded_of_change (C := Try.checked) own started (by kernel_rfl) Try.func3
    (ChangeSpec.witness6 (enc := enc) (C := Try.checked) false ⟨#[], #[.slice none 0 0], []⟩ 8 (by kernel_rfl) (by kernel_rfl) (by kernel_rfl) (by kernel_rfl)) ?_
  intro W base args ds gs before hval0 hW _ _
  have hval : ∀ (j : Nat) t v, Try.f3.params[j]? = some t → args[j]? = some v → Value.okWide Try.prog W .any base t v := hval0
  have hW' := hW
  obtain ⟨p, q, hA0, hV, rfl, hfz, hnd⟩ := hW
  have hA : DataW.TrodAll enc Try.prog W 0 (fun _ => true) true Try.f3.params.toList args.toList ds p := hA0
  rw [Try.params3] at hA hval
  obtain ⟨v0, vs0, d0, ds0, p0, q0, hargs, rfl, rfl, h0, r0⟩ := trodAll_cons hA
  obtain ⟨rfl, rfl, rfl⟩ := trodAll_nil r0
  obtain rfl : args = #[v0] := by cases args; simp_all
  obtain ⟨rfl, rfl⟩ := trodVars_none hV
  have lt0 : ∀ x ∈ p0, x.block < W.heap.size := by obtain ⟨m, hm⟩ := h0; exact DataW.trod_lt m _ _ _ hm
  obtain ⟨a0, c0, g0, rfl, w0⟩ := open_code (hval 0 22 v0 rfl rfl) h0
  clear hA0 hval0
  refine (prefixTells_walk a0 c0 g0 W w0).mono fun e W' ⟨he, bel⟩ => ?_
  subst he
  exact ⟨_, rfl, _, _, _, [], _, [], hW', trodAll_mk1 (shut_bool Try.underlying4 _), (trodAll_cons_mk (Below.trod laidOut (by kernel_rfl) (of_decide_eq_true (by kernel_rfl)) h0 bel lt0) trodAll_mk0), rfl, bel.frame _, fun h => by cases h⟩

theorem prefixTells_holds : Rows.PrefixTellsSaid :=
  OpenClaim.holds_of_wide 3 Try.f3 rfl rfl rfl rfl rfl rfl rfl ⟨rfl, rfl, rfl, rfl, rfl⟩ rfl rfl rfl rfl rfl (by kernel_rfl) Try.func3 (by kernel_rfl)
    (of_decide_eq_true (by kernel_rfl)) (by unfold Func.isWrapper; rw [if_neg (of_decide_eq_false (by kernel_rfl))]; exact ⟨rfl, rfl⟩)
    (fun os started H enc _ => prefixTells_lifted os started H enc)

#print axioms prefixTells_holds

end Go.Proofs.Ytfelbgilhhmbnaa
