/-
  For any lengths the program's Make answers the code that the document's does, or that there is none: KraftMakes returns true for every list of numbers, and changes nothing.
-/
import Derived.Test.YtnjfefipgldkfabOpen
import Derived.Test.YtnjfefipgldkfabShort
import Derived.Test.YtnjfefipgldkfabLists
namespace Go.Proofs.Ytnjfefipgldkfab
open Go.ChangeShapes Go.WideShapes Go.ChangeAt Go.RowKit Go.Deep
set_option linter.unusedVariables false

set_option maxHeartbeats 2000000 in
theorem kraftMakes_walk (z : Nm) (w : World) (hz : Nums w z) :
    Calls Try.prog 4 #[z.v] w fun e w' => e = .returned (.bool true) ∧ Ext w w' := by
  have H8 : Hid (∀ W, Ext w W → Calls Try.prog 8 #[z.v] W fun e w' => e = .returned (.int .i64 (lerl z.z)) ∧ w' = W) := fun W e => lensCheck_any z W (hz.ext e)
  by_cases hm : mer z.z = 0
  · have h10 := make_good z w hz hm
    have hl : lerl z.z = 0 := by
      unfold mer at hm
      by_cases h : lerl z.z = 0
      · exact h
      · simp [h] at hm
    have hk : ksum z.z ≤ 256 := by
      unfold mer at hm
      by_cases h : 256 < ksum z.z
      · simp [h, hl] at hm
      · omega
    rcases lerl_cases z.z with ⟨h, e⟩ | ⟨h, h', e⟩ | ⟨h8, hok, e⟩
    · omega
    · omega
    have H9 : Hid (∀ W, Ext w W → Calls Try.prog 9 #[z.v] W fun e w' => e = .returned (.int .i64 (ksum z.z)) ∧ w' = W) := fun W e => kraft_any z W (hz.ext e) hl
    have H11 : Hid (∀ W, Ext w W → Calls Try.prog 11 #[z.v] W fun e w' => (∃ (B : Nat) (g : List Wd), e = .returned (.tuple #[.slice (some ⟨B, 0, none⟩) g.length g.length, .bool true]) ∧ g.length = z.z.length ∧ g.map (·.l) = (List.range z.z.length).map (word (ml z.z) z.z.length) ∧ Wds w' (some ⟨B, 0, none⟩) g.length g) ∧ Ext W w') := fun W e => shortest_any z W (hz.ext e) h8 hok hk
    rw [hl] at H8
    have hkz : ¬ (256 : Int) < (ksum z.z : Int) := by omega
    clear hz hm hl e hok hk
    generalize ksum z.z = K at *
    generalize (List.range z.z.length).map (word (ml z.z) z.z.length) = ww at *
    obtain ⟨za, zc, zz⟩ := z
    simp only [Nm.v] at *
    generalize hn : zz.length = n at *
    clear hn
    go_enter Try.func4, Try.ntmps4
    go_wp2_with fail
    refine h10.mono ?_
    rintro e w1 ⟨⟨B, g, rfl, hgl, hgw, hg⟩, hb1⟩
    have HG : Hid (g.map (·.l) = ww ∧ Wds w1 (some ⟨B, 0, none⟩) g.length g) := ⟨hgw, hg⟩
    clear hgw hg hgl
    generalize hgn : g.length = gn at *
    have HGN : Hid (g.length = gn) := hgn
    clear hgn
    go_wp2_with fail
    refine (H8.out w1 hb1).mono ?_
    rintro e w2 ⟨rfl, rfl⟩
    go_wp2_with fail
    refine (H9.out w2 hb1).mono ?_
    rintro e w3 ⟨rfl, rfl⟩
    go_wp2_with fail
    refine (H11.out w3 hb1).mono ?_
    rintro e w4 ⟨⟨B2, g2, rfl, hgl2, hgw2, hg2⟩, hb4⟩
    have h12 : Calls Try.prog 12 #[.slice (some ⟨B, 0, none⟩) gn gn, .slice (some ⟨B2, 0, none⟩) g2.length g2.length] w4 fun e w' => e = .returned (.bool true) ∧ Qt w4 w' := by
      have h1 := HG.out.2.ext hb4
      have := lists_same (some ⟨B, 0, none⟩) (some ⟨B2, 0, none⟩) gn g2.length g g2 w4 h1 hg2 (by rw [HG.out.1, hgw2])
      rw [HGN.out] at this
      exact this
    clear hgw2 hg2 hgl2 HG HGN
    generalize g2.length = g2n at *
    go_wp2_with fail
    refine h12.mono ?_
    rintro e w5 ⟨rfl, hb5⟩
    go_wp2
    go_ret
    exact ⟨rfl, (hb1.trans hb4).trans hb5.ext⟩
  · have h10 := make_bad z w hz hm
    by_cases hl : lerl z.z = 0
    · have hk : 256 < ksum z.z := by
        unfold mer at hm
        by_cases h : 256 < ksum z.z
        · exact h
        · simp [h, hl] at hm
      have hm5 : mer z.z = 5 := by unfold mer; rw [if_pos hl, if_pos hk]
      have H9 : Hid (∀ W, Ext w W → Calls Try.prog 9 #[z.v] W fun e w' => e = .returned (.int .i64 (ksum z.z)) ∧ w' = W) := fun W e => kraft_any z W (hz.ext e) hl
      rw [hm5] at h10
      rw [hl] at H8
      have hkz : (256 : Int) < (ksum z.z : Int) := by omega
      clear hm hm5 hl hk hz
      generalize ksum z.z = K at *
      simp only [Nm.v] at *
      generalize z.z.length = n at *
      go_enter Try.func4, Try.ntmps4
      go_wp2_with fail
      refine h10.mono ?_
      rintro e w1 ⟨rfl, hb1⟩
      go_wp2_with fail
      refine (H8.out w1 hb1).mono ?_
      rintro e w2 ⟨rfl, rfl⟩
      go_wp2_with fail
      refine (H9.out w2 hb1).mono ?_
      rintro e w3 ⟨rfl, rfl⟩
      go_wp2
      go_ret
      exact ⟨rfl, hb1⟩
    · have hml : mer z.z = lerl z.z := by unfold mer; rw [if_neg hl]
      rw [hml] at h10
      have hne : (lerl z.z != 0) = true := by simpa using hl
      have hne2 : (lerl z.z == 0) = false := by simpa using hl
      clear hm hml hl hz
      generalize lerl z.z = r at *
      simp only [Nm.v] at *
      generalize z.z.length = n at *
      go_enter Try.func4, Try.ntmps4
      go_wp2_with fail
      refine h10.mono ?_
      rintro e w1 ⟨rfl, hb1⟩
      go_wp2_with fail
      refine (H8.out w1 hb1).mono ?_
      rintro e w2 ⟨rfl, rfl⟩
      go_wp2
      go_ret
      exact ⟨rfl, hb1⟩

set_option maxRecDepth 100000 in
theorem kraftMakes_lifted (os : Os) (started : os.Started) (H : Type) (enc : TypeId × Value → H) :
    ReturnsInHanded {} Try.checked os 4 .any (Rows.kraftMakesSpec.pre6 enc Try.prog Try.f4 Rows.kraftMakesRow.domain false) (Rows.kraftMakesSpec.post enc Try.prog Try.f4 false true false false) := by
  refine returnsInHanded_of_change (C := Try.checked) own started (by kernel_rfl) Try.func4
    (ChangeSpec.witness6 (enc := enc) (C := Try.checked) false ⟨#[], #[.slice none 0 0], []⟩ 8 (by kernel_rfl) (by kernel_rfl) (by kernel_rfl) (by kernel_rfl)) ?_
  intro W base args ds gs before hval0 hW _ _
  have hval : ∀ (j : Nat) t v, Try.f4.params[j]? = some t → args[j]? = some v → Value.okWide Try.prog W .any base t v := hval0
  have hW' := hW
  obtain ⟨p, q, hA0, hV, rfl, hfz, hnd⟩ := hW
  have hA : DataW.TrodAll enc Try.prog W 0 (fun _ => true) true Try.f4.params.toList args.toList ds p := hA0
  rw [Try.params4] at hA hval
  obtain ⟨v0, vs0, d0, ds0, p0, q0, hargs, rfl, rfl, h0, r0⟩ := trodAll_cons hA
  obtain ⟨rfl, rfl, rfl⟩ := trodAll_nil r0
  obtain rfl : args = #[v0] := by cases args; simp_all
  obtain ⟨rfl, rfl⟩ := trodVars_none hV
  have lt0 : ∀ x ∈ p0, x.block < W.heap.size := by obtain ⟨m, hm⟩ := h0; exact DataW.trod_lt m _ _ _ hm
  obtain ⟨x0, rfl, w0⟩ := open_syms (hval 0 22 v0 rfl rfl) h0
  clear hA0 hval0
  refine (kraftMakes_walk x0 W w0).mono fun e W' ⟨he, bel⟩ => ?_
  subst he
  exact ⟨_, rfl, _, _, _, [], _, [], hW', trodAll_mk1 (shut_bool Try.underlying4 _), (trodAll_cons_mk (Below.trod laidOut (by kernel_rfl) (of_decide_eq_true (by kernel_rfl)) h0 bel lt0) trodAll_mk0), rfl, bel.frame _, fun h => by cases h⟩

theorem kraftMakes_holds : Rows.KraftMakesSaid :=
  OpenClaim.holds_of_wide 4 Try.f4 rfl rfl rfl rfl rfl rfl rfl ⟨rfl, rfl, rfl, rfl, rfl⟩ rfl rfl rfl rfl rfl (by kernel_rfl) Try.func4 (by kernel_rfl)
    (of_decide_eq_true (by kernel_rfl)) (by unfold Func.isWrapper; rw [if_neg (of_decide_eq_false (by kernel_rfl))]; exact ⟨rfl, rfl⟩)
    (fun os started H enc _ => kraftMakes_lifted os started H enc)

#print axioms kraftMakes_holds

end Go.Proofs.Ytnjfefipgldkfab
