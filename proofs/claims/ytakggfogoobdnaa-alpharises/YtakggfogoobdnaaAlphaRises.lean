/-
  For any weights the words of the code that is told rise, and have the lengths that are told, which cost what is told: AlphaRises returns true for every list of weights, and changes nothing.
-/
import Derived.Test.YtakggfogoobdnaaOpn
import Derived.Test.YtakggfogoobdnaaAco
import Derived.Test.YtakggfogoobdnaaMk4
import Derived.Test.YtakggfogoobdnaaCs2
import Derived.Test.YtakggfogoobdnaaInts
import Derived.Test.YtakggfogoobdnaaLens
import Derived.Test.YtakggfogoobdnaaAlf
namespace Go.Proofs.Ytakggfogoobdnaa
open Go.ChangeShapes Go.WideShapes Go.ChangeAt Go.RowKit Go.Deep
set_option linter.unusedVariables false

theorem lerl_tt {n : Nat} {l : List Nat} (h : TT n l) (h8 : n ≤ 8) : lerl (lz l) = 0 := by
  apply lerl_ok
  · rw [lz_length, h.1]; exact h8
  · rw [List.any_eq_false]
    intro x hx
    obtain ⟨d, hd, rfl⟩ := List.mem_map.1 hx
    have := h.le d hd
    simp [outB]
    omega

theorem wds_rise {W : List (Nat × Nat)} {x a : Nat} (h : Plc W x a) (i : Nat) (hi : i + 1 < W.length) : rsB (dg W[i].1 W[i].2) (dg W[i + 1].1 W[i + 1].2) = true := by
  rw [rsB_dg (h.lt _ (List.getElem_mem _)) (h.lt _ (List.getElem_mem _))]
  exact List.pairwise_iff_getElem.1 h.rise i (i + 1) (by omega) hi (by omega)

theorem wds_lens {g : List Wd} {W : List (Nat × Nat)} {l : List Nat} (h : g.map (·.l) = wds W) (hW : W.map (·.2) = l) : lensOf g = lz l := by
  have h1 : g.map (fun x => x.l.length) = l := by
    have := congrArg (List.map List.length) h
    rw [List.map_map] at this
    rw [← hW]
    simpa [wds, Function.comp_def, dg_length] using this
  rw [← h1]
  simp [lensOf, lz, Function.comp_def]

set_option maxHeartbeats 4000000 in
theorem alphaRises_walk (x : Nm) (w : World) (hx : Nums w x) : Calls Try.prog 6 #[x.v] w fun e w' => e = .returned (.bool true) ∧ Ext w w' := by
  have HWD : Hid (∀ W, Ext w W → Calls Try.prog 18 #[x.v] W fun e w' => e = .returned (.bool (werl x.z == 0)) ∧ w' = W) := fun W e => weighed_any x W (hx.ext e)
  by_cases hok : werl x.z = 0
  · obtain ⟨v, hxv, h8, hw⟩ := werl_lz hok
    have HL := alensG_any x v w hx hxv hok
    have HC : Hid (∀ W, Ext w W → Calls Try.prog 9 #[x.v] W fun e w' => ∃ l : List Nat, e = .returned (.tuple #[.int .i64 (dot v l : Nat), .int .i64 0]) ∧ Opt v l ∧ Ext W w') := fun W e => acostG_any x v W (hx.ext e) hxv hok
    have HCS : Hid (∀ W (y : Nm) (l : List Nat), Ext w W → Nums W y → y.z = lz l → TT v.length l → Calls Try.prog 19 #[x.v, y.v] W fun e w' => e = .returned (.int .i64 (dot v l : Nat)) ∧ Qt W w') := by
      intro W y l e hy hyl hl
      have hlv : l.length = x.z.length := by rw [hl.1, hxv, lz_length]
      have := costs_any x y W l (hx.ext e) hok hy hyl (hl.get h8) hlv
      rw [hxv, lz_length, cs_dot hl.1] at this
      exact this
    rw [hok] at HWD
    obtain ⟨a, c, z⟩ := x
    simp only [Nm.v] at *
    subst hxv
    rw [lz_length] at HL HC HCS HWD ⊢
    have HV8 : Hid (v.length ≤ 8) := h8
    obtain ⟨n, hn⟩ : ∃ n, v.length = n := ⟨_, rfl⟩
    rw [hn] at HL HC HCS HWD HV8 h8 ⊢
    have HN : Hid (v.length = n) := hn
    clear hx hok hw hn
    go_enter Try.func6, Try.ntmps6
    go_wp2_with fail
    refine HL.mono ?_
    rintro e w1 ⟨l, y, rfl, hyz, hyn, hO, hE1⟩
    have htt : TT n l := by have := hO.1; rw [HN.out] at this; exact this
    have hyl : y.z.length = n := by rw [hyz, lz_length, htt.1]
    obtain ⟨W, x0, a0, hrun⟩ := run_tt htt
    have hinv := run_ok hrun
    have HM : Hid (∀ W', Ext w1 W' → Calls Try.prog 14 #[y.v] W' fun e w' => Ext W' w' ∧ ∃ (B : Nat) (g : List Wd), e = .returned (.tuple #[.slice (some ⟨B, 0, none⟩) g.length g.length, .int .i64 0]) ∧ g.length = n ∧ g.map (·.l) = wds W ∧ Wds w' (some ⟨B, 0, none⟩) g.length g) := by
      intro W' e
      refine (amake_any y l W' (hyn.ext e) hyz (by rw [hyz]; exact lerl_tt htt HV8.out)).mono ?_
      rintro e w' ⟨h1, (⟨h2, _⟩ | ⟨W2, x2, a2, h2, B, g, h3, h4, h5, h6⟩)⟩
      · rw [hrun] at h2; cases h2
      · rw [hrun] at h2
        simp only [Option.some.injEq, Prod.mk.injEq] at h2
        obtain ⟨rfl, -, -⟩ := h2
        exact ⟨h1, B, g, h3, by rw [h4, htt.1], h5, h6⟩
    have HCY : Hid (∀ W', Ext w1 W' → Calls Try.prog 19 #[.slice a n c, y.v] W' fun e w' => e = .returned (.int .i64 (dot v l : Nat)) ∧ Qt W' w') := fun W' e => HCS.out W' y l (hE1.trans e) (hyn.ext e) hyz htt
    have HINV : Hid (Plc W x0 a0 ∧ W.map (·.2) = l ∧ W.length = n) := ⟨hinv.1, hinv.2, by have := congrArg List.length hinv.2; simp at this; rw [this, htt.1]⟩
    have HOP : Hid (Opt v l) := hO
    have HY : Hid (y.z = lz l ∧ Nums w1 y) := ⟨hyz, hyn⟩
    have E1 : Hid (Ext w w1) := hE1
    clear HL HCS hyz hyn hO hE1 htt hrun hinv
    obtain ⟨ya, yc, yz⟩ := y
    simp only [Nm.v] at *
    rw [hyl] at HM HCY ⊢
    have HYL : Hid (yz.length = n) := hyl
    clear hyl
    go_wp2_with fail
    refine (HC.out w1 E1.out).mono ?_
    rintro e w2 ⟨l2, rfl, hO2, hE2⟩
    obtain rfl := HOP.out.eq hO2
    have E2 : Hid (Ext w w2) := E1.out.trans hE2
    have E12 : Hid (Ext w1 w2) := hE2
    clear hO2 hE2 HC
    go_wp2_with fail
    refine (HWD.out w2 E2.out).mono ?_
    rintro e w3 ⟨rfl, rfl⟩
    clear HWD
    go_wp2_with fail
    refine (HM.out w3 E12.out).mono ?_
    rintro e w4 ⟨hE4, B, g, rfl, hgl, hgw, hg⟩
    have E14 : Hid (Ext w1 w4) := E12.out.trans hE4
    have HG : Hid (g.map (·.l) = wds W ∧ Wds w4 (some ⟨B, 0, none⟩) g.length g ∧ g.length = n) := ⟨hgw, hg, hgl⟩
    have hcy := HCY.out w4 E14.out
    rw [hgl]
    obtain ⟨g1, g2, _, b, o, g4, g5⟩ := hg
    rw [hgl] at g1 g2 g4
    have G5 : Hid (∀ i (h : i < g.length), w4.cell? ⟨b, o + i, none⟩ = some (g[i].v)) := g5
    clear hgl hgw hE4 g5 HM HCY
    generalize dot v l = C at *
    go_wp2_with fail
    refine hcy.mono ?_
    rintro e w5 ⟨rfl, hq5⟩
    have Q5 : Hid (Qt w4 w5) := hq5
    clear hcy hq5
    go_wp2
    go_loopg [9] n (fun gg s9 wr => ∃ k : Nat, 1 ≤ k ∧ (k ≤ n ∨ k = 1) ∧ n - k ≤ gg ∧ s9 = .int .i64 k ∧ Aside (Qt w4 wr))
    case atStart => exact ⟨1, by omega, by omega, by omega, rfl, Q5.out⟩
    case round =>
      obtain ⟨k, hk1, hk, hgg, rfl, Q⟩ := hrel
      by_cases hlt : k < n
      · have hltz : (k : Int) < (n : Int) := by omega
        obtain ⟨j, rfl⟩ : ∃ j, k = j + 1 := ⟨k - 1, by omega⟩
        have e0 := g4 (by omega)
        simp only [Option.some.injEq, Addr.mk.injEq, and_true] at e0
        obtain ⟨rfl, rfl⟩ := e0
        have hj1 : j < g.length := by rw [HG.out.2.2]; omega
        have hj2 : j + 1 < g.length := by rw [HG.out.2.2]; exact hlt
        have c1 := Q.out.cell (G5.out j hj1)
        have c2 := Q.out.cell (G5.out (j + 1) hj2)
        have hWj : j + 1 < W.length := by rw [HINV.out.2.2]; exact hlt
        have hgl1 : ∀ i (h1 : i < g.length) (h2 : i < W.length), g[i].l = dg W[i].1 W[i].2 := by
          intro i h1 h2
          have h7 : (g.map (·.l))[i]? = (wds W)[i]? := by rw [HG.out.1]
          unfold wds at h7
          rw [List.getElem?_map, List.getElem?_map, List.getElem?_eq_getElem h1, List.getElem?_eq_getElem h2] at h7
          simpa using h7
        have hrs : rsB g[j].l g[j + 1].l = true := by
          rw [hgl1 j hj1 (by omega), hgl1 (j + 1) hj2 hWj]
          exact wds_rise HINV.out.1 j hWj
        have hc : Hid (∀ W', Qt wr W' → Calls Try.prog 20 #[g[j].v, g[j + 1].v] W' fun e w' => e = .returned (.bool true) ∧ ∃ m, w' = W'.drewN m) := by
          intro W' q
          have := rises_any g[j] g[j + 1] W' ((HG.out.2.1.sub j hj1).ext (Q.out.trans q).ext) ((HG.out.2.1.sub (j + 1) hj2).ext (Q.out.trans q).ext)
          rw [hrs] at this
          exact this
        have hjm : ((j + 1 : Nat) : Int) - 1 = (j : Int) := by omega
        have hjz : (j : Int) < (n : Int) := by omega
        clear hgl1 hrs hWj
        generalize g[j] = u1 at *
        generalize g[j + 1] = u2 at *
        obtain ⟨u1a, u1c, u1l⟩ := u1
        obtain ⟨u2a, u2c, u2l⟩ := u2
        simp only [Wd.v, Nat.zero_add] at c1 c2 hc
        generalize u1l.length = u1n at *
        generalize u2l.length = u2n at *
        clear hj1 hj2
        go_wp2
        go_quiet ((go_at_call 20; exact Calls.quiet_of (hc.out _ ⟨_, rfl⟩)))
        go_wp2
        go_roundg (n - (j + 1 + 1))
        case measure => omega
        case rel => exact ⟨j + 1 + 1, by omega, by omega, by omega, by go_num, Q.out.drewN _⟩
      · have hltz : ¬ (k : Int) < (n : Int) := by omega
        have hln := lens_any (some ⟨B, 0, none⟩) g.length g wr (HG.out.2.1.ext Q.out.ext) (by rw [HG.out.2.2]; omega)
        rw [HG.out.2.2] at hln
        have E4 : Hid (Ext w4 wr) := Q.out.ext
        clear g4
        go_wp2_with fail
        refine hln.mono ?_
        rintro e w6 ⟨⟨q, rfl, hqz, hqn⟩, hE6⟩
        have hint := ints_any q ⟨ya, yc, yz⟩ w6 hqn (HY.out.2.ext ((E14.out.trans E4.out).trans hE6))
        have hzz : (q.z == yz) = true := by
          rw [beq_iff_eq, hqz, wds_lens HG.out.1 HINV.out.2.1]
          exact HY.out.1.symm
        simp only [Nm.v] at hint
        rw [hzz, HYL.out] at hint
        have E6 : Hid (Ext w w6) := E1.out.trans ((E14.out.trans E4.out).trans hE6)
        clear hzz hqz hqn hE6 hln
        obtain ⟨qa, qc, qz⟩ := q
        simp only at hint
        simp only [Nm.v]
        generalize qz.length = m at *
        go_wp2_with fail
        refine hint.mono ?_
        rintro e w7 ⟨rfl, hq7⟩
        have E7 : Hid (Ext w w7) := E6.out.trans hq7.ext
        clear hq7 hint
        go_wp2
        go_ret
        exact ⟨rfl, E7.out⟩
  · have HL := alensB_any x w hx hok
    have HC : Hid (∀ W, Ext w W → Calls Try.prog 9 #[x.v] W fun e w' => e = .returned (.tuple #[.int .i64 0, .int .i64 (werl x.z)]) ∧ Ext W w') := fun W e => acostB_any x W (hx.ext e) hok
    have hr : (werl x.z == 0) = false := by simpa using hok
    have hne : (werl x.z != 0) = true := by simp [bne, hr]
    clear hx hok
    obtain ⟨a, c, z⟩ := x
    simp only [Nm.v] at *
    generalize werl z = r at *
    generalize z.length = n at *
    go_enter Try.func6, Try.ntmps6
    go_wp2_with fail
    refine HL.mono ?_
    rintro e w1 ⟨rfl, hb⟩
    go_wp2_with fail
    refine (HC.out w1 hb).mono ?_
    rintro e w2 ⟨rfl, hb2⟩
    go_wp2_with fail
    refine (HWD.out w2 (hb.trans hb2)).mono ?_
    rintro e w3 ⟨rfl, rfl⟩
    go_wp2
    go_ret
    exact ⟨ret_bool (by simp), hb.trans hb2⟩

set_option maxRecDepth 100000 in
theorem alphaRises_lifted (os : Os) (started : os.Started) (H : Type) (enc : TypeId × Value → H) :
    ReturnsInHanded {} Try.checked os 6 .any (Rows.alphaRisesSpec.pre6 enc Try.prog Try.f6 Rows.alphaRisesRow.domain false) (Rows.alphaRisesSpec.post enc Try.prog Try.f6 false true false false) := by
  refine returnsInHanded_of_change (C := Try.checked) own started (by kernel_rfl) Try.func6
    (ChangeSpec.witness6 (enc := enc) (C := Try.checked) false ⟨#[], #[.slice none 0 0], []⟩ 8 (by kernel_rfl) (by kernel_rfl) (by kernel_rfl) (by kernel_rfl)) ?_
  intro W base args ds gs before hval0 hW _ _
  have hval : ∀ (j : Nat) t v, Try.f6.params[j]? = some t → args[j]? = some v → Value.okWide Try.prog W .any base t v := hval0
  have hW' := hW
  obtain ⟨p, q, hA0, hV, rfl, hfz, hnd⟩ := hW
  have hA : DataW.TrodAll enc Try.prog W 0 (fun _ => true) true Try.f6.params.toList args.toList ds p := hA0
  rw [Try.params6] at hA hval
  obtain ⟨v0, vs0, d0, ds0, p0, q0, hargs, rfl, rfl, h0, r0⟩ := trodAll_cons hA
  obtain ⟨rfl, rfl, rfl⟩ := trodAll_nil r0
  obtain rfl : args = #[v0] := by cases args; simp_all
  obtain ⟨rfl, rfl⟩ := trodVars_none hV
  have lt0 : ∀ x ∈ p0, x.block < W.heap.size := by obtain ⟨m, hm⟩ := h0; exact DataW.trod_lt m _ _ _ hm
  obtain ⟨x0, rfl, w0⟩ := open_wts (hval 0 22 v0 rfl rfl) h0
  clear hA0 hval0
  refine (alphaRises_walk x0 W w0).mono fun e W' ⟨he, bel⟩ => ?_
  subst he
  exact ⟨_, rfl, _, _, _, [], _, [], hW', trodAll_mk1 (shut_bool Try.underlying4 _), (trodAll_cons_mk (Below.trod laidOut (by kernel_rfl) (of_decide_eq_true (by kernel_rfl)) h0 bel lt0) trodAll_mk0), rfl, bel.frame _, fun h => by cases h⟩

theorem alphaRises_holds : Rows.AlphaRisesSaid :=
  OpenClaim.holds_of_wide 6 Try.f6 rfl rfl rfl rfl rfl rfl rfl ⟨rfl, rfl, rfl, rfl, rfl⟩ rfl rfl rfl rfl rfl (by kernel_rfl) Try.func6 (by kernel_rfl)
    (of_decide_eq_true (by kernel_rfl)) (by unfold Func.isWrapper; rw [if_neg (of_decide_eq_false (by kernel_rfl))]; exact ⟨rfl, rfl⟩)
    (fun os started H enc _ => alphaRises_lifted os started H enc)

#print axioms alphaRises_holds

end Go.Proofs.Ytakggfogoobdnaa
