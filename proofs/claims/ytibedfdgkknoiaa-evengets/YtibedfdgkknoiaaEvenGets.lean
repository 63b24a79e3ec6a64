/-
  Of any bits the program tells what was put, or that there is nothing of which they were made; of more than 20 that they are too many: EvenGets returns true for every list of bits, and changes nothing.
-/
import Derived.Test.YtibedfdgkknoiaaOpen
import Derived.Test.YtibedfdgkknoiaaHl
import Derived.ProofKit
namespace Go.Proofs.Ytibedfdgkknoiaa
open Go.ChangeShapes Go.WideShapes Go.ChangeAt Go.RowKit Go.Deep
set_option linter.unusedVariables false

theorem evenGets_walk (x : Wd) (w : World) (hx : Bits w x) : Calls Try.prog 5 #[x.v] w fun e w' => e = .returned (.bool true) ∧ Ext w w' := by
  have hm : x.l.length ≤ maxLen := Nat.le_trans hx.1 hx.2.1
  by_cases h : 20 < x.l.length
  · have c1 := Get_large x h hm w
    have hz : (x.l.length : Int) > 20 := by omega
    clear hx
    simp only [Wd.v] at *
    generalize x.l.length = n at *
    unfold maxLen at hm
    go_enter Try.func5, Try.ntmps5
    go_wp2_with fail
    refine c1.mono ?_
    rintro e w1 ⟨rfl, rfl⟩
    clear c1
    go_wp2
    go_ret
    exact ⟨rfl, Ext.refl _⟩
  · have hz : ¬ (x.l.length : Int) > 20 := by omega
    have C2 : Hid (∀ W, Ext w W → Calls Try.prog 15 #[x.v] W fun e w' => ∃ v, e = .returned (.tuple #[v, .bool (gt x.l).isSome]) ∧ Ext W w' ∧ ∀ t, gt x.l = some t → OwnB W w' v t) := fun W E => evenGet_any x (by omega) W (hx.ext E)
    cases hg : gt x.l with
    | none =>
      have c1 := Get_none x (by omega) hg w hx
      rw [hg] at C2
      clear hx hg
      simp only [Wd.v] at *
      generalize x.l.length = n at *
      unfold maxLen at hm
      go_enter Try.func5, Try.ntmps5
      go_wp2_with fail
      refine c1.mono ?_
      rintro e w1 ⟨rfl, E⟩
      have E1 : Hid (Ext w w1) := E
      clear c1 E
      go_wp2_with fail
      refine (C2.out w1 E1.out).mono ?_
      rintro e w2 ⟨v, rfl, E, _⟩
      have E2 : Hid (Ext w w2) := E1.out.trans E
      clear C2 E E1
      go_wp2
      go_ret
      exact ⟨rfl, E2.out⟩
    | some T =>
      have c1 := Get_some x (by omega) T hg w hx
      rw [hg] at C2
      clear hx hg
      simp only [Wd.v] at *
      generalize x.l.length = n at *
      unfold maxLen at hm
      go_enter Try.func5, Try.ntmps5
      go_wp2_with fail
      refine c1.mono ?_
      rintro e w1 ⟨v, rfl, O⟩
      obtain ⟨y, rfl, hy, hb, E⟩ := O.word
      have E1 : Hid (Ext w w1) := E
      have Y : Hid (y.l = T ∧ Bits w1 y) := ⟨hy, hb⟩
      clear c1 hy hb E O
      go_wp2_with fail
      refine (C2.out w1 E1.out).mono ?_
      rintro e w2 ⟨v, rfl, _, O⟩
      obtain ⟨z, rfl, hz, hb, E⟩ := (O T rfl).word
      have c3 := same_any y z w2 (Y.out.2.ext E) hb (by rw [hz, Y.out.1])
      have E2 : Hid (Ext w w2) := E1.out.trans E
      clear C2 hz hb E O Y E1
      go_wp2_with fail
      refine c3.mono ?_
      rintro e w3 ⟨rfl, E⟩
      have E3 : Hid (Ext w w3) := E2.out.trans E
      clear c3 E E2
      go_wp2
      go_ret
      exact ⟨rfl, E3.out⟩

set_option maxRecDepth 100000 in
theorem evenGets_lifted (os : Os) (started : os.Started) (H : Type) (enc : TypeId × Value → H) :
    ReturnsInHanded {} Try.checked os 5 .any (Rows.evenGetsSpec.pre6 enc Try.prog Try.f5 Rows.evenGetsRow.domain false) (Rows.evenGetsSpec.post enc Try.prog Try.f5 false true false false) := by
  refine returnsInHanded_of_change (C := Try.checked) own started (by kernel_rfl) Try.func5
    (ChangeSpec.witness6 (enc := enc) (C := Try.checked) false ⟨#[], #[.slice none 0 0], []⟩ 8 (by kernel_rfl) (by kernel_rfl) (by kernel_rfl) (by kernel_rfl)) ?_
  intro W base args ds gs before hval0 hW _ _
  have hval : ∀ (j : Nat) t v, Try.f5.params[j]? = some t → args[j]? = some v → Value.okWide Try.prog W .any base t v := hval0
  have hW' := hW
  obtain ⟨p, q, hA0, hV, rfl, hfz, hnd⟩ := hW
  have hA : DataW.TrodAll enc Try.prog W 0 (fun _ => true) true Try.f5.params.toList args.toList ds p := hA0
  rw [Try.params5] at hA hval
  obtain ⟨v0, vs0, d0, ds0, p0, q0, hargs, rfl, rfl, h0, r0⟩ := trodAll_cons hA
  obtain ⟨rfl, rfl, rfl⟩ := trodAll_nil r0
  obtain rfl : args = #[v0] := by cases args; simp_all
  obtain ⟨rfl, rfl⟩ := trodVars_none hV
  have lt0 : ∀ x ∈ p0, x.block < W.heap.size := by obtain ⟨m, hm⟩ := h0; exact DataW.trod_lt m _ _ _ hm
  obtain ⟨x0, rfl, w0⟩ := open_word (hval 0 22 v0 rfl rfl) h0
  clear hA0 hval0
  refine (evenGets_walk x0 W w0).mono fun e W' ⟨he, bel⟩ => ?_
  subst he
  exact ⟨_, rfl, _, _, _, [], _, [], hW', trodAll_mk1 (shut_bool Try.underlying4 _), (trodAll_cons_mk (Below.trod laidOut (by kernel_rfl) (of_decide_eq_true (by kernel_rfl)) h0 bel lt0) trodAll_mk0), rfl, bel.frame _, fun h => by cases h⟩

theorem evenGets_holds : Rows.EvenGetsSaid :=
  OpenClaim.holds_of_wide 5 Try.f5 rfl rfl rfl rfl rfl rfl rfl ⟨rfl, rfl, rfl, rfl, rfl⟩ rfl rfl rfl rfl rfl (by kernel_rfl) Try.func5 (by kernel_rfl)
    (of_decide_eq_true (by kernel_rfl)) (by unfold Func.isWrapper; rw [if_neg (of_decide_eq_false (by kernel_rfl))]; exact ⟨rfl, rfl⟩)
    (fun os started H enc _ => evenGets_lifted os started H enc)

#print axioms evenGets_holds

end Go.Proofs.Ytibedfdgkknoiaa
