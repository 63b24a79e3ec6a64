/-
  Of any bits the program tells the texts that stand between flags, or that there are none, and of more than 1000 that they are too many: StuffSplits returns true for every list of bits, and changes nothing.
-/
import Derived.Test.YtglajpmifhecgaaOpen
import Derived.Test.YtglajpmifhecgaaHl
import Derived.ProofKit
namespace Go.Proofs.Ytglajpmifhecgaa
open Go.ChangeShapes Go.WideShapes Go.ChangeAt Go.RowKit Go.Deep
set_option linter.unusedVariables false

theorem stuffSplits_walk (x : Wd) (w : World) (hx : Bits w x) : Calls Try.prog 6 #[x.v] w fun e w' => e = .returned (.bool true) ∧ Ext w w' := by
  have hm := hx.2.1
  have hm1 := hx.1
  by_cases h : 1000 < x.l.length
  · have c1 := Split_large x h (by omega) w
    have hz : (x.l.length : Int) > 1000 := by omega
    clear hx
    simp only [Wd.v] at *
    generalize x.l.length = n at *
    unfold maxLen at hm
    go_enter Try.func6, Try.ntmps6
    go_wp2_with fail
    refine c1.mono ?_
    rintro e w1 ⟨rfl, rfl⟩
    clear c1
    go_wp2
    go_ret
    exact ⟨rfl, Ext.refl _⟩
  · have c1 := Split_any x (by omega) w hx
    have c2 : Hid (∀ W, Ext w W → Calls Try.prog 17 #[x.v] W fun e w' => Ext W w' ∧ ∃ v b, e = .returned (.tuple #[v, .bool b]) ∧ (b = false → Nil x.l) ∧ (b = true → ∃ X, x.l = frm (X.map (·.l)) ∧ large (X.map (·.l)) = false ∧ OwnT W w' v X)) := fun W E => refSplits_any x (by omega) W (hx.ext E)
    have hz : ¬ (x.l.length : Int) > 1000 := by omega
    clear hx
    obtain ⟨a, c, l⟩ := x
    simp only [Wd.v] at *
    obtain ⟨n, hn⟩ : ∃ n, l.length = n := ⟨_, rfl⟩
    rw [hn] at c1 c2 hz hm1 h ⊢
    clear hn
    unfold maxLen at hm
    go_enter Try.func6, Try.ntmps6
    go_wp2_with fail
    refine c1.mono ?_
    rintro e w1 ⟨E, h1⟩
    have E1 : Hid (Ext w w1) := E
    clear c1 E
    rcases h1 with ⟨rfl, h1⟩ | ⟨v, X, rfl, h1, h2, O⟩
    · have NL : Hid (∀ ts, l = frm ts → large ts = true) := h1
      clear h1
      go_wp2_with fail
      refine (c2.out w1 E1.out).mono ?_
      rintro e w2 ⟨E, v, b, rfl, hb1, hb2⟩
      have E2 : Hid (Ext w w2) := E1.out.trans E
      clear c2 E E1
      cases b
      · clear hb1 hb2 NL
        go_wp2
        go_ret
        exact ⟨rfl, E2.out⟩
      · obtain ⟨X, h3, h4, _⟩ := hb2 rfl
        have := NL.out _ h3
        rw [h4] at this
        cases this
    · have HX : Hid (l = frm (X.map (·.l)) ∧ large (X.map (·.l)) = false) := ⟨h1, h2⟩
      obtain ⟨xa, xc, rfl, hw⟩ := O.wds
      have WX : Hid (Wds w1 xa xc X) := hw
      clear h1 h2 O hw
      go_wp2_with fail
      refine (c2.out w1 E1.out).mono ?_
      rintro e w2 ⟨E, v, b, rfl, hb1, hb2⟩
      have E2 : Hid (Ext w w2) := E1.out.trans E
      cases b
      · have := hb1 rfl _ HX.out.1
        rw [HX.out.2] at this
        cases this
      · obtain ⟨Y, h3, h4, O⟩ := hb2 rfl
        obtain ⟨ya, yc, rfl, hw⟩ := O.wds
        have c3 := sameLists_any xa ya xc yc X Y w2 (WX.out.ext E) hw (frm_inj (HX.out.1.symm.trans h3))
        clear hb1 hb2 h3 h4 O hw c2 E E1 WX
        generalize X.length = nx at *
        generalize Y.length = ny at *
        go_wp2_with fail
        refine c3.mono ?_
        rintro e w3 ⟨rfl, E⟩
        have E3 : Hid (Ext w w3) := E2.out.trans E
        clear c3 E E2
        go_wp2
        go_ret
        exact ⟨rfl, E3.out⟩

set_option maxRecDepth 100000 in
theorem stuffSplits_lifted (os : Os) (started : os.Started) (H : Type) (enc : TypeId × Value → H) :
    ReturnsInHanded {} Try.checked os 6 .any (Rows.stuffSplitsSpec.pre6 enc Try.prog Try.f6 Rows.stuffSplitsRow.domain false) (Rows.stuffSplitsSpec.post enc Try.prog Try.f6 false true false false) := by
  refine returnsInHanded_of_change (C := Try.checked) own started (by kernel_rfl) Try.func6
    (ChangeSpec.witness6 (enc := enc) (C := Try.checked) false ⟨#[], #[.slice none 0 0], []⟩ 8 (by kernel_rfl) (by kernel_rfl) (by kernel_rfl) (by kernel_rfl)) ?_
  intro W base args ds gs before hval0 hW _ _
  have hval : ∀ (j : Nat) t v, Try.f6.params[j]? = some t → args[j]? = some v → Value.okWide Try.prog W .any base t v := hval0
  have hW' := hW
  obtain ⟨p, q, hA0, hV, rfl, hfz, hnd⟩ := hW
  have hA : DataW.TrodAll enc Try.prog W 0 (fun _ => true) true Try.f6.params.toList args.toList ds p := hA0
  rw [Try.params6] at hA hval
  obtain ⟨v0, vs0, d0, ds0, p0, q0, hargs, rfl, rfl, h0, r0⟩ := trodAll_cons hA
  obtain ⟨rfl, rfl, rfl⟩ := trodAll_nil r0
  obtain rfl : args = #[v0] := by cases args; simp_all
  obtain ⟨rfl, rfl⟩ := trodVars_none hV
  have lt0 : ∀ x ∈ p0, x.block < W.heap.size := by obtain ⟨m, hm⟩ := h0; exact DataW.trod_lt m _ _ _ hm
  obtain ⟨x0, rfl, w0⟩ := open_word (hval 0 22 v0 rfl rfl) h0
  clear hA0 hval0
  refine (stuffSplits_walk x0 W w0).mono fun e W' ⟨he, bel⟩ => ?_
  subst he
  exact ⟨_, rfl, _, _, _, [], _, [], hW', trodAll_mk1 (shut_bool Try.underlying4 _), (trodAll_cons_mk (Below.trod laidOut (by kernel_rfl) (of_decide_eq_true (by kernel_rfl)) h0 bel lt0) trodAll_mk0), rfl, bel.frame _, fun h => by cases h⟩

theorem stuffSplits_holds : Rows.StuffSplitsSaid :=
  OpenClaim.holds_of_wide 6 Try.f6 rfl rfl rfl rfl rfl rfl rfl ⟨rfl, rfl, rfl, rfl, rfl⟩ rfl rfl rfl rfl rfl (by kernel_rfl) Try.func6 (by kernel_rfl)
    (of_decide_eq_true (by kernel_rfl)) (by unfold Func.isWrapper; rw [if_neg (of_decide_eq_false (by kernel_rfl))]; exact ⟨rfl, rfl⟩)
    (fun os started H enc _ => stuffSplits_lifted os started H enc)

#print axioms stuffSplits_holds

end Go.Proofs.Ytglajpmifhecgaa
