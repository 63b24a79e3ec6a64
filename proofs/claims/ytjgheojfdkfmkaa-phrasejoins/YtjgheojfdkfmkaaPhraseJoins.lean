/-
  For any phrases the program tells their text: PhraseJoins returns true for every list of phrases, and changes nothing.
-/
import Derived.Test.YtjgheojfdkfmkaaOpen
import Derived.Test.YtjgheojfdkfmkaaEq
import Derived.Test.YtjgheojfdkfmkaaRfj2
namespace Go.Proofs.Ytjgheojfdkfmkaa
open Go.ChangeShapes Go.WideShapes Go.ChangeAt Go.RowKit Go.Deep

set_option maxHeartbeats 2000000 in
theorem phraseJoins_walk (x : Pm) (w : World) (hx : Phs w x) : Calls Try.prog 4 #[x.v] w fun e w' => e = .returned (.bool true) ∧ Ext w w' := by
  have hj := join_any x w hx
  have HR : Hid (∀ W, Ext w W → Calls Try.prog 11 #[x.v] W fun e w' => Ext W w' ∧ ∃ y : Wd, Bits w' y ∧ y.l = jtx x.g ∧ e = .returned (.tuple #[y.v, .int .i64 (jer x.g)])) := fun W hW => joined_any x W (hx.ext hW)
  obtain ⟨a, c, g⟩ := x
  simp only [Pm.v] at *
  clear hx
  generalize jer g = E at *
  generalize jtx g = J at *
  generalize g.length = n at *
  have hE : (E == E) = true := by simp
  go_enter Try.func4, Try.ntmps4
  go_wp2_with fail
  refine hj.mono ?_
  rintro e w1 ⟨he, y, hy, hyl, rfl⟩
  have hr := HR.out w1 he
  have HY : Hid (Bits w1 y ∧ y.l = J ∧ Ext w w1) := ⟨hy, hyl, he⟩
  clear hj HR hy hyl he
  go_wp2_with fail
  refine hr.mono ?_
  rintro e w2 ⟨he, z, hz, hzl, rfl⟩
  have hb := bytes_any y z w2 (HY.out.1.ext he) hz
  have E2 : Hid (Ext w w2) := HY.out.2.2.trans he
  have hyz : y.l = z.l := by rw [HY.out.2.1, hzl]
  rw [hyz, beq_self_eq_true] at hb
  clear hr HY he hz hzl hyz
  go_wp2_with fail
  refine hb.mono ?_
  rintro e w3 ⟨rfl, hw3⟩
  have E3 : Hid (Ext w w3) := E2.out.trans hw3.ext
  clear hb hw3 E2
  go_wp2
  go_ret
  exact ⟨rfl, E3.out⟩

set_option maxRecDepth 100000 in
theorem phraseJoins_lifted (os : Os) (started : os.Started) (H : Type) (enc : TypeId × Value → H) :
    ReturnsInHanded {} Try.checked os 4 .any (Rows.phraseJoinsSpec.pre6 enc Try.prog Try.f4 Rows.phraseJoinsRow.domain false) (Rows.phraseJoinsSpec.post enc Try.prog Try.f4 false true false false) := by
  refine returnsInHanded_of_change (C := Try.checked) own started (by kernel_rfl) Try.func4
    (ChangeSpec.witness6 (enc := enc) (C := Try.checked) false ⟨#[], #[.slice none 0 0], []⟩ 8 (by kernel_rfl) (by kernel_rfl) (by kernel_rfl) (by kernel_rfl)) ?_
  intro W base args ds gs before hval0 hW _ _
  have hval : ∀ (j : Nat) t v, Try.f4.params[j]? = some t → args[j]? = some v → Value.okWide Try.prog W .any base t v := hval0
  have hW' := hW
  obtain ⟨p, q, hA0, hV, rfl, hfz, hnd⟩ := hW
  have hA : DataW.TrodAll enc Try.prog W 0 (fun _ => true) true Try.f4.params.toList args.toList ds p := hA0
  rw [Try.params4] at hA hval
  obtain ⟨v0, vs0, d0, ds0, p0, q0, hargs, rfl, rfl, h0, r0⟩ := trodAll_cons hA
  obtain ⟨rfl, rfl, rfl⟩ := trodAll_nil r0
  obtain rfl : args = #[v0] := by cases args; simp_all
  obtain ⟨rfl, rfl⟩ := trodVars_none hV
  have lt0 : ∀ x ∈ p0, x.block < W.heap.size := by obtain ⟨m, hm⟩ := h0; exact DataW.trod_lt m _ _ _ hm
  obtain ⟨x0, rfl, w0⟩ := open_phs (hval 0 23 v0 rfl rfl) h0
  clear hA0 hval0
  refine (phraseJoins_walk x0 W w0).mono fun e W' ⟨he, bel⟩ => ?_
  subst he
  exact ⟨_, rfl, _, _, _, [], _, [], hW', trodAll_mk1 (shut_bool Try.underlying4 _), (trodAll_cons_mk (Below.trod laidOut (by kernel_rfl) (of_decide_eq_true (by kernel_rfl)) h0 bel lt0) trodAll_mk0), rfl, bel.frame _, fun h => by cases h⟩

theorem phraseJoins_holds : Rows.PhraseJoinsSaid :=
  OpenClaim.holds_of_wide 4 Try.f4 rfl rfl rfl rfl rfl rfl rfl ⟨rfl, rfl, rfl, rfl, rfl⟩ rfl rfl rfl rfl rfl (by kernel_rfl) Try.func4 (by kernel_rfl)
    (of_decide_eq_true (by kernel_rfl)) (by unfold Func.isWrapper; rw [if_neg (of_decide_eq_false (by kernel_rfl))]; exact ⟨rfl, rfl⟩)
    (fun os started H enc _ => phraseJoins_lifted os started H enc)

#print axioms phraseJoins_holds

end Go.Proofs.Ytjgheojfdkfmkaa
