/-
  Of any bits the program tells with how few of the first turned half of them are set, and these bits; of too many, and of an odd number, its code: EvenTurns returns true for every list of bits, and changes nothing.
-/
import Derived.Test.YtibedfdgkknoiaaOpen
import Derived.Test.YtibedfdgkknoiaaHl
import Derived.ProofKit
namespace Go.Proofs.Ytibedfdgkknoiaa
open Go.ChangeShapes Go.WideShapes Go.ChangeAt Go.RowKit Go.Deep
set_option linter.unusedVariables false

theorem evenTurns_walk (x : Wd) (w : World) (hx : Bits w x) : Calls Try.prog 3 #[x.v] w fun e w' => e = .returned (.bool true) ∧ Ext w w' := by
  have hm : x.l.length ≤ maxLen := Nat.le_trans hx.1 hx.2.1
  by_cases h : ce x.l.length = 0
  · obtain ⟨hl, he⟩ := ce_zero h
    have c1 := Turn_good x hl he w hx
    have C2 : Hid (∀ W, Calls Try.prog 9 #[x.v] W fun e w' => e = .returned (.int .i64 0) ∧ w' = W) := fun W => by rw [← h]; exact refCheck_any x.a x.c x.l.length hm W
    have C3 : Hid (∀ W, Ext w W → Calls Try.prog 10 #[x.v] W fun e w' => ∃ v, e = .returned (.tuple #[v, .int .i64 (lk x.l : Nat)]) ∧ OwnB W w' v (tt (lk x.l) x.l)) := fun W E => evened_any x (by omega) he W (hx.ext E)
    have hk := (lk_spec he).1
    clear hx h
    simp only [Wd.v] at *
    generalize tt (lk x.l) x.l = T at *
    generalize lk x.l = K at *
    generalize x.l.length = n at *
    unfold maxLen at hm
    go_enter Try.func3, Try.ntmps3
    go_wp2_with fail
    refine c1.mono ?_
    rintro e w1 ⟨v, rfl, O⟩
    obtain ⟨y, rfl, hy, hb, E⟩ := O.word
    have E1 : Hid (Ext w w1) := E
    have Y : Hid (y.l = T ∧ Bits w1 y) := ⟨hy, hb⟩
    clear c1 hy hb E O
    go_wp2_with fail
    refine (C2.out w1).mono ?_
    rintro e w2 ⟨rfl, rfl⟩
    clear C2
    go_wp2_with fail
    refine (C3.out w2 E1.out).mono ?_
    rintro e w3 ⟨v, rfl, O⟩
    obtain ⟨z, rfl, hz, hb, E⟩ := O.word
    have c3 := same_any y z w3 (Y.out.2.ext E) hb (by rw [hz, Y.out.1])
    have E2 : Hid (Ext w w3) := E1.out.trans E
    clear C3 hz hb E O Y E1
    go_wp2_with fail
    refine c3.mono ?_
    rintro e w4 ⟨rfl, E⟩
    have E3 : Hid (Ext w w4) := E2.out.trans E
    clear c3 E E2
    go_wp2
    go_ret
    exact ⟨rfl, E3.out⟩
  · have c1 := Turn_bad x h hm w
    have c2 := refCheck_any x.a x.c x.l.length hm w
    have hz : (ce x.l.length == 0) = false := beq_eq_false_iff_ne.2 h
    clear hx h
    simp only [Wd.v] at *
    generalize ce x.l.length = z at *
    generalize x.l.length = n at *
    unfold maxLen at hm
    go_enter Try.func3, Try.ntmps3
    go_wp2_with fail
    refine c1.mono ?_
    rintro e w1 ⟨rfl, rfl⟩
    clear c1
    go_wp2_with fail
    refine c2.mono ?_
    rintro e w2 ⟨rfl, rfl⟩
    clear c2
    go_wp2
    go_ret
    first | exact ⟨rfl, Ext.refl _⟩ | exact ⟨ret_bool (by simp), Ext.refl _⟩

set_option maxRecDepth 100000 in
theorem evenTurns_lifted (os : Os) (started : os.Started) (H : Type) (enc : TypeId × Value → H) :
    ReturnsInHanded {} Try.checked os 3 .any (Rows.evenTurnsSpec.pre6 enc Try.prog Try.f3 Rows.evenTurnsRow.domain false) (Rows.evenTurnsSpec.post enc Try.prog Try.f3 false true false false) := by
  refine returnsInHanded_of_change (C := Try.checked) own started (by kernel_rfl) Try.func3
    (ChangeSpec.witness6 (enc := enc) (C := Try.checked) false ⟨#[], #[.slice none 0 0], []⟩ 8 (by kernel_rfl) (by kernel_rfl) (by kernel_rfl) (by kernel_rfl)) ?_
  intro W base args ds gs before hval0 hW _ _
  have hval : ∀ (j : Nat) t v, Try.f3.params[j]? = some t → args[j]? = some v → Value.okWide Try.prog W .any base t v := hval0
  have hW' := hW
  obtain ⟨p, q, hA0, hV, rfl, hfz, hnd⟩ := hW
  have hA : DataW.TrodAll enc Try.prog W 0 (fun _ => true) true Try.f3.params.toList args.toList ds p := hA0
  rw [Try.params3] at hA hval
  obtain ⟨v0, vs0, d0, ds0, p0, q0, hargs, rfl, rfl, h0, r0⟩ := trodAll_cons hA
  obtain ⟨rfl, rfl, rfl⟩ := trodAll_nil r0
  obtain rfl : args = #[v0] := by cases args; simp_all
  obtain ⟨rfl, rfl⟩ := trodVars_none hV
  have lt0 : ∀ x ∈ p0, x.block < W.heap.size := by obtain ⟨m, hm⟩ := h0; exact DataW.trod_lt m _ _ _ hm
  obtain ⟨x0, rfl, w0⟩ := open_word (hval 0 22 v0 rfl rfl) h0
  clear hA0 hval0
  refine (evenTurns_walk x0 W w0).mono fun e W' ⟨he, bel⟩ => ?_
  subst he
  exact ⟨_, rfl, _, _, _, [], _, [], hW', trodAll_mk1 (shut_bool Try.underlying4 _), (trodAll_cons_mk (Below.trod laidOut (by kernel_rfl) (of_decide_eq_true (by kernel_rfl)) h0 bel lt0) trodAll_mk0), rfl, bel.frame _, fun h => by cases h⟩

theorem evenTurns_holds : Rows.EvenTurnsSaid :=
  OpenClaim.holds_of_wide 3 Try.f3 rfl rfl rfl rfl rfl rfl rfl ⟨rfl, rfl, rfl, rfl, rfl⟩ rfl rfl rfl rfl rfl (by kernel_rfl) Try.func3 (by kernel_rfl)
    (of_decide_eq_true (by kernel_rfl)) (by unfold Func.isWrapper; rw [if_neg (of_decide_eq_false (by kernel_rfl))]; exact ⟨rfl, rfl⟩)
    (fun os started H enc _ => evenTurns_lifted os started H enc)

#print axioms evenTurns_holds

end Go.Proofs.Ytibedfdgkknoiaa
