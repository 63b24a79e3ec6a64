/-
  For any texts: what stands between flags is told as it was, and what is told stands there: StuffTexts returns true for every list of lists of bits and every list of bits, and changes nothing.
-/
import Derived.Test.YtglajpmifhecgaaOpen
import Derived.Test.YtglajpmifhecgaaHl
import Derived.ProofKit
namespace Go.Proofs.Ytglajpmifhecgaa
open Go.ChangeShapes Go.WideShapes Go.ChangeAt Go.RowKit Go.Deep
set_option linter.unusedVariables false

/-- What Split tells of any bits. -/
theorem Split_all (x : Wd) (w : World) (hx : Bits w x) : Calls Try.prog 16 #[x.v] w fun e w' => Ext w w' ∧ ((∃ c : Int, e = .returned (.tuple #[.slice none 0 0, .int .i64 c]) ∧ (c = 1 ∨ c = 3) ∧ (x.l.length ≤ 1000 → Nil x.l)) ∨ ∃ a c, ∃ X : List Wd, e = .returned (.tuple #[.slice a X.length c, .int .i64 0]) ∧ x.l = frm (X.map (·.l)) ∧ large (X.map (·.l)) = false ∧ Wds w' a c X) := by
  by_cases h : 1000 < x.l.length
  · refine (Split_large x h (by have := hx.1; have := hx.2.1; omega) w).mono ?_
    rintro e w' ⟨rfl, rfl⟩
    exact ⟨Ext.refl _, Or.inl ⟨1, rfl, Or.inl rfl, fun h2 => by omega⟩⟩
  · refine (Split_any x (by omega) w hx).mono ?_
    rintro e w' ⟨E, h | ⟨v, X, rfl, h1, h2, O⟩⟩
    · exact ⟨E, Or.inl ⟨3, h.1, Or.inr rfl, fun _ => h.2⟩⟩
    · obtain ⟨a, c, rfl, hw⟩ := O.wds
      exact ⟨E, Or.inr ⟨a, c, X, rfl, h1, h2, hw⟩⟩
/-- What Frames tells of any texts. -/
theorem Frames_all (a : Option Addr) (c : Nat) (g : List Wd) (w : World) (hg : Wds w a c g) : Calls Try.prog 14 #[.slice a g.length c] w fun e w' => Ext w w' ∧ ((large (g.map (·.l)) = true ∧ e = .returned (.tuple #[.slice none 0 0, .int .i64 1])) ∨ ∃ y : Wd, large (g.map (·.l)) = false ∧ e = .returned (.tuple #[y.v, .int .i64 0]) ∧ y.l = frm (g.map (·.l)) ∧ Bits w' y) := by
  cases hl : large (g.map (·.l)) with
  | true =>
    refine (Frames_large a c g w hg hl).mono ?_
    rintro e w' ⟨rfl, E⟩
    exact ⟨E, Or.inl ⟨rfl, rfl⟩⟩
  | false =>
    refine (Frames_good a c g w hg hl).mono ?_
    rintro e w' ⟨v, rfl, O⟩
    obtain ⟨y, rfl, hy, hb, E⟩ := O.word
    exact ⟨E, Or.inr ⟨y, rfl, rfl, hy, hb⟩⟩

set_option maxHeartbeats 2000000 in
theorem stuffTexts_walk (a : Option Addr) (c : Nat) (g : List Wd) (x : Wd) (w : World) (hg : Wds w a c g) (hx : Bits w x) : Calls Try.prog 8 #[.slice a g.length c, x.v] w fun e w' => e = .returned (.bool true) ∧ Ext w w' := by
  have c1 := Frames_all a c g w hg
  have c2 : Hid (∀ W, Ext w W → _) := fun W E => Split_all x W (hx.ext E)
  have XB : Hid (Bits w x) := hx
  have GB : Hid (Wds w a c g) := hg
  obtain ⟨l, hL⟩ : ∃ l, x.l = l := ⟨_, rfl⟩
  have XL : Hid (x.l = l) := hL
  rw [hL] at c2
  clear hx hg hL
  obtain ⟨T, hT⟩ : ∃ T, g.map (·.l) = T := ⟨_, rfl⟩
  have GT : Hid (g.map (·.l) = T) := hT
  rw [hT] at c1
  clear hT
  obtain ⟨n, hn⟩ : ∃ n, g.length = n := ⟨_, rfl⟩
  have GN : Hid (g.length = n) := hn
  rw [hn] at c1 ⊢
  clear hn
  go_enter Try.func8, Try.ntmps8
  go_wp2_with fail
  refine c1.mono ?_
  rintro e w1 ⟨E, h1⟩
  have E1 : Hid (Ext w w1) := E
  clear c1 E
  rcases h1 with ⟨_, rfl⟩ | ⟨y, hlT, rfl, hy1, hy2⟩
  · go_wp2_with fail
    refine (c2.out w1 E1.out).mono ?_
    rintro e w2 ⟨E, h2⟩
    have E2 : Hid (Ext w w2) := E1.out.trans E
    clear c2 E E1
    rcases h2 with ⟨cc, rfl, hc, _⟩ | ⟨ta, tc, TX, rfl, ht1, ht2, ht3⟩
    · rcases hc with rfl | rfl
      · have EE : Hid (Ext w w2) := E2.out
        go_wp2
        go_ret
        exact ⟨rfl, EE.out⟩
      · have EE : Hid (Ext w w2) := E2.out
        go_wp2
        go_ret
        exact ⟨rfl, EE.out⟩
    · have TL : Hid (l = frm (TX.map (·.l)) ∧ large (TX.map (·.l)) = false) := ⟨ht1, ht2⟩
      have TB2 : Hid (Wds w2 ta tc TX) := ht3
      clear ht1 ht2 ht3
      obtain ⟨tn, htn⟩ : ∃ tn, TX.length = tn := ⟨_, rfl⟩
      have TN : Hid (TX.length = tn) := htn
      rw [htn]
      clear htn
      have EE : Hid (Ext w w2) := E2.out
      have TB : Hid (Wds w2 ta tc TX) := TB2.out
      have c6 := Frames_all ta tc TX w2 TB.out
      rw [TN.out] at c6
      go_wp2_with fail
      refine c6.mono ?_
      rintro e w6 ⟨E, h6⟩
      have E6 : Hid (Ext w w6) := EE.out.trans E
      clear c6 E
      rcases h6 with ⟨h6, _⟩ | ⟨y2, _, rfl, h6, h7⟩
      · rw [TL.out.2] at h6; cases h6
      · have c7 := same_any y2 x w6 h7 (XB.out.ext E6.out) (by rw [h6, XL.out]; exact TL.out.1.symm)
        clear h6 h7
        go_wp2_with fail
        refine c7.mono ?_
        rintro e w7 ⟨rfl, E⟩
        have E7 : Hid (Ext w w7) := E6.out.trans E
        clear c7 E E6
        go_wp2
        go_ret
        exact ⟨rfl, E7.out⟩
  · have YL : Hid (y.l = frm T ∧ large T = false) := ⟨hy1, hlT⟩
    have YB : Hid (Bits w1 y) := hy2
    clear hlT hy1 hy2
    go_wp2_with fail
    refine (c2.out w1 E1.out).mono ?_
    rintro e w2 ⟨E, h2⟩
    have E2 : Hid (Ext w w2) := E1.out.trans E
    have YB2 : Hid (Bits w2 y) := YB.out.ext E
    clear YB
    clear c2 E E1
    rcases h2 with ⟨cc, rfl, hc, _⟩ | ⟨ta, tc, TX, rfl, ht1, ht2, ht3⟩
    · rcases hc with rfl | rfl
      · obtain ⟨q, hq⟩ : ∃ q, y.l.length = q := ⟨_, rfl⟩
        have YN : Hid (y.l.length = q) := hq
        have ym1 := YB2.out.1
        have ym2 := YB2.out.2.1
        unfold maxLen at ym2
        have YV : Hid (y.v = .slice y.a q y.c) := by show _ = _; rw [Wd.v, hq]
        rw [YV.out]
        rw [hq] at ym1
        clear hq
        by_cases hq : q ≤ 1000
        · have hqz : (q : Int) ≤ 1000 := by omega
          have c3 := Split_any y (by rw [YN.out]; exact hq) w2 YB2.out
          rw [YV.out] at c3
          go_wp2_with fail
          refine c3.mono ?_
          rintro e w3 ⟨E3, h3⟩
          clear c3
          rcases h3 with ⟨_, h3⟩ | ⟨v, BX, rfl, h3, _, O3⟩
          · have := h3 _ YL.out.1
            rw [YL.out.2] at this
            cases this
          · obtain ⟨ba, bc, rfl, hbw⟩ := O3.wds
            have c4 := sameLists_any ba a bc c BX g w3 hbw (GB.out.ext (E2.out.trans E3)) (by rw [GT.out]; exact frm_inj (h3.symm.trans YL.out.1))
            rw [GN.out] at c4
            have bl : BX.length = n := by
              have := congrArg List.length (frm_inj (h3.symm.trans YL.out.1))
              rw [← GT.out, List.length_map, List.length_map, GN.out] at this
              exact this
            rw [bl] at c4 ⊢
            clear bl O3 hbw h3
            go_wp2_with fail
            refine c4.mono ?_
            rintro e w4 ⟨rfl, E4⟩
            have EE : Hid (Ext w w4) := E2.out.trans (E3.trans E4)
            clear c4 E3 E4
            go_wp2
            go_ret
            exact ⟨rfl, EE.out⟩
        · have hqz : ¬ (q : Int) ≤ 1000 := by omega
          have c3 := Split_large y (by rw [YN.out]; omega) (by rw [YN.out]; unfold maxLen; omega) w2
          rw [YV.out] at c3
          have EE : Hid (Ext w w2) := E2.out
          clear E2
          go_wp2_with fail
          refine c3.mono ?_
          rintro e w3 ⟨rfl, rfl⟩
          clear c3
          go_wp2
          go_ret
          exact ⟨rfl, EE.out⟩
      · obtain ⟨q, hq⟩ : ∃ q, y.l.length = q := ⟨_, rfl⟩
        have YN : Hid (y.l.length = q) := hq
        have ym1 := YB2.out.1
        have ym2 := YB2.out.2.1
        unfold maxLen at ym2
        have YV : Hid (y.v = .slice y.a q y.c) := by show _ = _; rw [Wd.v, hq]
        rw [YV.out]
        rw [hq] at ym1
        clear hq
        by_cases hq : q ≤ 1000
        · have hqz : (q : Int) ≤ 1000 := by omega
          have c3 := Split_any y (by rw [YN.out]; exact hq) w2 YB2.out
          rw [YV.out] at c3
          go_wp2_with fail
          refine c3.mono ?_
          rintro e w3 ⟨E3, h3⟩
          clear c3
          rcases h3 with ⟨_, h3⟩ | ⟨v, BX, rfl, h3, _, O3⟩
          · have := h3 _ YL.out.1
            rw [YL.out.2] at this
            cases this
          · obtain ⟨ba, bc, rfl, hbw⟩ := O3.wds
            have c4 := sameLists_any ba a bc c BX g w3 hbw (GB.out.ext (E2.out.trans E3)) (by rw [GT.out]; exact frm_inj (h3.symm.trans YL.out.1))
            rw [GN.out] at c4
            have bl : BX.length = n := by
              have := congrArg List.length (frm_inj (h3.symm.trans YL.out.1))
              rw [← GT.out, List.length_map, List.length_map, GN.out] at this
              exact this
            rw [bl] at c4 ⊢
            clear bl O3 hbw h3
            go_wp2_with fail
            refine c4.mono ?_
            rintro e w4 ⟨rfl, E4⟩
            have EE : Hid (Ext w w4) := E2.out.trans (E3.trans E4)
            clear c4 E3 E4
            go_wp2
            go_ret
            exact ⟨rfl, EE.out⟩
        · have hqz : ¬ (q : Int) ≤ 1000 := by omega
          have c3 := Split_large y (by rw [YN.out]; omega) (by rw [YN.out]; unfold maxLen; omega) w2
          rw [YV.out] at c3
          have EE : Hid (Ext w w2) := E2.out
          clear E2
          go_wp2_with fail
          refine c3.mono ?_
          rintro e w3 ⟨rfl, rfl⟩
          clear c3
          go_wp2
          go_ret
          exact ⟨rfl, EE.out⟩
    · have TL : Hid (l = frm (TX.map (·.l)) ∧ large (TX.map (·.l)) = false) := ⟨ht1, ht2⟩
      have TB2 : Hid (Wds w2 ta tc TX) := ht3
      clear ht1 ht2 ht3
      obtain ⟨tn, htn⟩ : ∃ tn, TX.length = tn := ⟨_, rfl⟩
      have TN : Hid (TX.length = tn) := htn
      rw [htn]
      clear htn
      obtain ⟨q, hq⟩ : ∃ q, y.l.length = q := ⟨_, rfl⟩
      have YN : Hid (y.l.length = q) := hq
      have ym1 := YB2.out.1
      have ym2 := YB2.out.2.1
      unfold maxLen at ym2
      have YV : Hid (y.v = .slice y.a q y.c) := by show _ = _; rw [Wd.v, hq]
      rw [YV.out]
      rw [hq] at ym1
      clear hq
      by_cases hq : q ≤ 1000
      · have hqz : (q : Int) ≤ 1000 := by omega
        have c3 := Split_any y (by rw [YN.out]; exact hq) w2 YB2.out
        rw [YV.out] at c3
        go_wp2_with fail
        refine c3.mono ?_
        rintro e w3 ⟨E3, h3⟩
        clear c3
        rcases h3 with ⟨_, h3⟩ | ⟨v, BX, rfl, h3, _, O3⟩
        · have := h3 _ YL.out.1
          rw [YL.out.2] at this
          cases this
        · obtain ⟨ba, bc, rfl, hbw⟩ := O3.wds
          have c4 := sameLists_any ba a bc c BX g w3 hbw (GB.out.ext (E2.out.trans E3)) (by rw [GT.out]; exact frm_inj (h3.symm.trans YL.out.1))
          rw [GN.out] at c4
          have bl : BX.length = n := by
            have := congrArg List.length (frm_inj (h3.symm.trans YL.out.1))
            rw [← GT.out, List.length_map, List.length_map, GN.out] at this
            exact this
          rw [bl] at c4 ⊢
          clear bl O3 hbw h3
          go_wp2_with fail
          refine c4.mono ?_
          rintro e w4 ⟨rfl, E4⟩
          have EE : Hid (Ext w w4) := E2.out.trans (E3.trans E4)
          have TB : Hid (Wds w4 ta tc TX) := TB2.out.ext (E3.trans E4)
          clear c4 E3 E4
          have c6 := Frames_all ta tc TX w4 TB.out
          rw [TN.out] at c6
          go_wp2_with fail
          refine c6.mono ?_
          rintro e w6 ⟨E, h6⟩
          have E6 : Hid (Ext w w6) := EE.out.trans E
          clear c6 E
          rcases h6 with ⟨h6, _⟩ | ⟨y2, _, rfl, h6, h7⟩
          · rw [TL.out.2] at h6; cases h6
          · have c7 := same_any y2 x w6 h7 (XB.out.ext E6.out) (by rw [h6, XL.out]; exact TL.out.1.symm)
            clear h6 h7
            go_wp2_with fail
            refine c7.mono ?_
            rintro e w7 ⟨rfl, E⟩
            have E7 : Hid (Ext w w7) := E6.out.trans E
            clear c7 E E6
            go_wp2
            go_ret
            exact ⟨rfl, E7.out⟩
      · have hqz : ¬ (q : Int) ≤ 1000 := by omega
        have c3 := Split_large y (by rw [YN.out]; omega) (by rw [YN.out]; unfold maxLen; omega) w2
        rw [YV.out] at c3
        have EE : Hid (Ext w w2) := E2.out
        have TB : Hid (Wds w2 ta tc TX) := TB2.out
        clear E2
        go_wp2_with fail
        refine c3.mono ?_
        rintro e w3 ⟨rfl, rfl⟩
        clear c3
        have c6 := Frames_all ta tc TX _ TB.out
        rw [TN.out] at c6
        go_wp2_with fail
        refine c6.mono ?_
        rintro e w6 ⟨E, h6⟩
        have E6 : Hid (Ext w w6) := EE.out.trans E
        clear c6 E
        rcases h6 with ⟨h6, _⟩ | ⟨y2, _, rfl, h6, h7⟩
        · rw [TL.out.2] at h6; cases h6
        · have c7 := same_any y2 x w6 h7 (XB.out.ext E6.out) (by rw [h6, XL.out]; exact TL.out.1.symm)
          clear h6 h7
          go_wp2_with fail
          refine c7.mono ?_
          rintro e w7 ⟨rfl, E⟩
          have E7 : Hid (Ext w w7) := E6.out.trans E
          clear c7 E E6
          go_wp2
          go_ret
          exact ⟨rfl, E7.out⟩

set_option maxRecDepth 100000 in
theorem stuffTexts_lifted (os : Os) (started : os.Started) (H : Type) (enc : TypeId × Value → H) :
    ReturnsInHanded {} Try.checked os 8 .any (Rows.stuffTextsSpec.pre6 enc Try.prog Try.f8 Rows.stuffTextsRow.domain false) (Rows.stuffTextsSpec.post enc Try.prog Try.f8 false true false false) := by
  refine returnsInHanded_of_change (C := Try.checked) own started (by kernel_rfl) Try.func8
    (ChangeSpec.witness6 (enc := enc) (C := Try.checked) false ⟨#[], #[.slice none 0 0, .slice none 0 0], []⟩ 8 (by kernel_rfl) (by kernel_rfl) (by kernel_rfl) (by kernel_rfl)) ?_
  intro W base args ds gs before hval0 hW _ _
  have hval : ∀ (j : Nat) t v, Try.f8.params[j]? = some t → args[j]? = some v → Value.okWide Try.prog W .any base t v := hval0
  have hW' := hW
  obtain ⟨p, q, hA0, hV, rfl, hfz, hnd⟩ := hW
  have hA : DataW.TrodAll enc Try.prog W 0 (fun _ => true) true Try.f8.params.toList args.toList ds p := hA0
  rw [Try.params8] at hA hval
  obtain ⟨v0, vs0, d0, ds0, p0, q0, hargs, rfl, rfl, h0, r0⟩ := trodAll_cons hA
  obtain ⟨v1, vs1, d1, ds1, p1, q1, rfl, rfl, rfl, h1, r1⟩ := trodAll_cons r0
  obtain ⟨rfl, rfl, rfl⟩ := trodAll_nil r1
  obtain rfl : args = #[v0, v1] := by cases args; simp_all
  obtain ⟨rfl, rfl⟩ := trodVars_none hV
  have lt0 : ∀ x ∈ p0, x.block < W.heap.size := by obtain ⟨m, hm⟩ := h0; exact DataW.trod_lt m _ _ _ hm
  obtain ⟨a0, c0, g0, rfl, w0⟩ := open_code (hval 0 31 v0 rfl rfl) h0
  have lt1 : ∀ x ∈ p1, x.block < W.heap.size := by obtain ⟨m, hm⟩ := h1; exact DataW.trod_lt m _ _ _ hm
  obtain ⟨x1, rfl, w1⟩ := open_word (hval 1 22 v1 rfl rfl) h1
  clear hA0 hval0
  refine (stuffTexts_walk a0 c0 g0 x1 W w0 w1).mono fun e W' ⟨he, bel⟩ => ?_
  subst he
  exact ⟨_, rfl, _, _, _, [], _, [], hW', trodAll_mk1 (shut_bool Try.underlying4 _), (trodAll_cons_mk (Below.trod laidOut (by kernel_rfl) (of_decide_eq_true (by kernel_rfl)) h0 bel lt0) (trodAll_cons_mk (Below.trod laidOut (by kernel_rfl) (of_decide_eq_true (by kernel_rfl)) h1 bel lt1) trodAll_mk0)), rfl, bel.frame _, fun h => by cases h⟩

theorem stuffTexts_holds : Rows.StuffTextsSaid :=
  OpenClaim.holds_of_wide 8 Try.f8 rfl rfl rfl rfl rfl rfl rfl ⟨rfl, rfl, rfl, rfl, rfl⟩ rfl rfl rfl rfl rfl (by kernel_rfl) Try.func8 (by kernel_rfl)
    (of_decide_eq_true (by kernel_rfl)) (by unfold Func.isWrapper; rw [if_neg (of_decide_eq_false (by kernel_rfl))]; exact ⟨rfl, rfl⟩)
    (fun os started H enc _ => stuffTexts_lifted os started H enc)

#print axioms stuffTexts_holds

end Go.Proofs.Ytglajpmifhecgaa
