/-
  For any lengths the program tells a code whose words rise, or that there is none: AlphaMakes returns true for every list of numbers, and changes nothing.
-/
import Derived.Test.YtakggfogoobdnaaOpen
import Derived.Test.YtakggfogoobdnaaMk6
import Derived.Test.YtakggfogoobdnaaLists
namespace Go.Proofs.Ytakggfogoobdnaa
open Go.ChangeShapes Go.WideShapes Go.ChangeAt Go.RowKit Go.Deep
set_option linter.unusedVariables false

set_option maxHeartbeats 2000000 in
theorem alphaMakes_walk (z : Nm) (w : World) (hz : Nums w z) : Calls Try.prog 5 #[z.v] w fun e w' => e = .returned (.bool true) ∧ Ext w w' := by
  have HLC : Hid (∀ W, Ext w W → Calls Try.prog 15 #[z.v] W fun e w' => e = .returned (.int .i64 (lerl z.z)) ∧ w' = W) := fun W e => lensCheck_any z W (hz.ext e)
  by_cases hok : lerl z.z = 0
  · obtain ⟨h8, l, hzl, _⟩ := lerl_nat hok
    have HM := amake_any z l w hz hzl hok
    have HO : Hid (∀ W, Ext w W → Calls Try.prog 16 #[z.v] W fun e w' => Ext W w' ∧ ((run l = none ∧ e = .returned (.tuple #[.slice none 0 0, .bool false])) ∨
      ∃ W, (∃ x a, run l = some (W, x, a)) ∧ ∃ (va : Option Addr) (vc : Nat) (g : List Wd), e = .returned (.tuple #[.slice va g.length vc, .bool true]) ∧ g.map (·.l) = wds W ∧ Wds w' va vc g)) := fun W e => ordered_any z l W (hz.ext e) hzl hok
    rw [hok] at HLC
    obtain ⟨za, zc, zz⟩ := z
    simp only [Nm.v] at *
    clear hz hok hzl h8
    generalize zz.length = n at *
    cases hr : run l with
    | none =>
      rw [hr] at HM HO
      clear hr
      go_enter Try.func5, Try.ntmps5
      go_wp2_with fail
      refine HM.mono ?_
      rintro e w1 ⟨hE1, (⟨-, rfl⟩ | ⟨W, x, a, h, _⟩)⟩
      · have E1 : Hid (Ext w w1) := hE1
        clear hE1 HM
        go_wp2_with fail
        refine (HLC.out w1 E1.out).mono ?_
        rintro e w2 ⟨rfl, rfl⟩
        clear HLC
        go_wp2_with fail
        refine (HO.out w2 E1.out).mono ?_
        rintro e w3 ⟨hE3, (⟨-, rfl⟩ | ⟨W, ⟨x, a, h⟩, _⟩)⟩
        · have E3 : Hid (Ext w w3) := E1.out.trans hE3
          clear hE3 HO
          go_wp2
          go_ret
          exact ⟨ret_bool (by simp), E3.out⟩
        · cases h
      · cases h
    | some s =>
      obtain ⟨W0, x0, a0⟩ := s
      rw [hr] at HM HO
      clear hr
      go_enter Try.func5, Try.ntmps5
      go_wp2_with fail
      refine HM.mono ?_
      rintro e w1 ⟨hE1, (⟨h, _⟩ | ⟨W, x, a, h, B, g, rfl, -, hgw, hg⟩)⟩
      · cases h
      · have E1 : Hid (Ext w w1) := hE1
        obtain rfl : W0 = W := by simp only [Option.some.injEq, Prod.mk.injEq] at h; exact h.1
        have HG : Hid (g.map (·.l) = wds W0 ∧ Wds w1 (some ⟨B, 0, none⟩) g.length g) := ⟨hgw, hg⟩
        clear hE1 HM h hgw hg
        obtain ⟨gn, hgn⟩ : ∃ gn, g.length = gn := ⟨_, rfl⟩
        have HGN : Hid (g.length = gn) := hgn
        rw [hgn]
        clear hgn
        go_wp2_with fail
        refine (HLC.out w1 E1.out).mono ?_
        rintro e w2 ⟨rfl, rfl⟩
        clear HLC
        go_wp2_with fail
        refine (HO.out w2 E1.out).mono ?_
        rintro e w3 ⟨hE3, (⟨h, _⟩ | ⟨W, ⟨x, a, h⟩, va, vc, g2, rfl, hgw2, hg2⟩)⟩
        · cases h
        · obtain rfl : W0 = W := by simp only [Option.some.injEq, Prod.mk.injEq] at h; exact h.1
          have hls := lists_same (some ⟨B, 0, none⟩) va g.length vc g g2 w3 (HG.out.2.ext hE3) hg2 (by rw [HG.out.1, hgw2])
          rw [HGN.out] at hls
          have E3 : Hid (Ext w w3) := E1.out.trans hE3
          clear hE3 HO h hgw2 hg2 HG
          generalize g2.length = gm at *
          go_wp2_with fail
          refine hls.mono ?_
          rintro e w4 ⟨rfl, hq⟩
          have E4 : Hid (Ext w w4) := E3.out.trans hq.ext
          clear hq hls
          go_wp2
          go_ret
          exact ⟨rfl, E4.out⟩
  · have HM := amake_bad z w hz hok
    have hr : (lerl z.z == 0) = false := by simpa using hok
    clear hz hok
    obtain ⟨a, c, zz⟩ := z
    simp only [Nm.v] at *
    generalize lerl zz = r at *
    generalize zz.length = n at *
    go_enter Try.func5, Try.ntmps5
    go_wp2_with fail
    refine HM.mono ?_
    rintro e w1 ⟨rfl, hb⟩
    go_wp2_with fail
    refine (HLC.out w1 hb).mono ?_
    rintro e w2 ⟨rfl, rfl⟩
    go_wp2
    go_ret
    exact ⟨ret_bool (by simp), hb⟩

set_option maxRecDepth 100000 in
theorem alphaMakes_lifted (os : Os) (started : os.Started) (H : Type) (enc : TypeId × Value → H) :
    ReturnsInHanded {} Try.checked os 5 .any (Rows.alphaMakesSpec.pre6 enc Try.prog Try.f5 Rows.alphaMakesRow.domain false) (Rows.alphaMakesSpec.post enc Try.prog Try.f5 false true false false) := by
  refine returnsInHanded_of_change (C := Try.checked) own started (by kernel_rfl) Try.func5
    (ChangeSpec.witness6 (enc := enc) (C := Try.checked) false ⟨#[], #[.slice none 0 0], []⟩ 8 (by kernel_rfl) (by kernel_rfl) (by kernel_rfl) (by kernel_rfl)) ?_
  intro W base args ds gs before hval0 hW _ _
  have hval : ∀ (j : Nat) t v, Try.f5.params[j]? = some t → args[j]? = some v → Value.okWide Try.prog W .any base t v := hval0
  have hW' := hW
  obtain ⟨p, q, hA0, hV, rfl, hfz, hnd⟩ := hW
  have hA : DataW.TrodAll enc Try.prog W 0 (fun _ => true) true Try.f5.params.toList args.toList ds p := hA0
  rw [Try.params5] at hA hval
  obtain ⟨v0, vs0, d0, ds0, p0, q0, hargs, rfl, rfl, h0, r0⟩ := trodAll_cons hA
  obtain ⟨rfl, rfl, rfl⟩ := trodAll_nil r0
  obtain rfl : args = #[v0] := by cases args; simp_all
  obtain ⟨rfl, rfl⟩ := trodVars_none hV
  have lt0 : ∀ x ∈ p0, x.block < W.heap.size := by obtain ⟨m, hm⟩ := h0; exact DataW.trod_lt m _ _ _ hm
  obtain ⟨x0, rfl, w0⟩ := open_syms (hval 0 27 v0 rfl rfl) h0
  clear hA0 hval0
  refine (alphaMakes_walk x0 W w0).mono fun e W' ⟨he, bel⟩ => ?_
  subst he
  exact ⟨_, rfl, _, _, _, [], _, [], hW', trodAll_mk1 (shut_bool Try.underlying4 _), (trodAll_cons_mk (Below.trod laidOut (by kernel_rfl) (of_decide_eq_true (by kernel_rfl)) h0 bel lt0) trodAll_mk0), rfl, bel.frame _, fun h => by cases h⟩

theorem alphaMakes_holds : Rows.AlphaMakesSaid :=
  OpenClaim.holds_of_wide 5 Try.f5 rfl rfl rfl rfl rfl rfl rfl ⟨rfl, rfl, rfl, rfl, rfl⟩ rfl rfl rfl rfl rfl (by kernel_rfl) Try.func5 (by kernel_rfl)
    (of_decide_eq_true (by kernel_rfl)) (by unfold Func.isWrapper; rw [if_neg (of_decide_eq_false (by kernel_rfl))]; exact ⟨rfl, rfl⟩)
    (fun os started H enc _ => alphaMakes_lifted os started H enc)

#print axioms alphaMakes_holds

end Go.Proofs.Ytakggfogoobdnaa
