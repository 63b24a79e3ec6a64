/-
  quipuref.Ordered, walked.
-/
import Derived.Test.YtakggfogoobdnaaMk5
namespace Go.Proofs.Ytakggfogoobdnaa
open Go.RowKit

set_option maxHeartbeats 4000000 in
theorem ordered_any (z : Nm) (l : List Nat) (w : World) (hz : Nums w z) (hzl : z.z = lz l) (hok : lerl z.z = 0) :
    Calls Try.prog 16 #[z.v] w fun e w' => Ext w w' ∧ ((run l = none ∧ e = .returned (.tuple #[.slice none 0 0, .bool false])) ∨
      ∃ W, (∃ x a, run l = some (W, x, a)) ∧ ∃ (va : Option Addr) (vc : Nat) (g : List Wd), e = .returned (.tuple #[.slice va g.length vc, .bool true]) ∧ g.map (·.l) = wds W ∧ Wds w' va vc g) := by
  obtain ⟨h8, l', hl', hle'⟩ := lerl_nat hok
  have : l' = l := by
    rw [hzl] at hl'
    have := congrArg (List.map Int.toNat) hl'
    simpa [lz, Function.comp_def] using this.symm
  subst this
  rw [hzl, lz_length] at h8
  have DG : Hid (∀ (x s : Nat) (W : World), x ≤ 256 → s ≤ 8 → Calls Try.prog 30 #[.int .i64 (x : Int), .int .i64 (s : Int)] W fun e w' => (∃ B : Nat, e = .returned (.slice (some ⟨B, 0, none⟩) s s) ∧ Row w' B 4 (bv (dg x s))) ∧ Ext W w') := fun x s W hx hs => digits_any x s hx hs W
  have RS : Hid (∀ (x y : Wd) (W : World), Bits W x → Bits W y → Calls Try.prog 20 #[x.v, y.v] W fun e w' => e = .returned (.bool (rsB x.l y.l)) ∧ Qt W w') := fun x y W hx hy => rises_any x y W hx hy
  obtain ⟨za, zc, zz⟩ := z
  simp only [Nm.v] at *
  subst hzl
  obtain ⟨q1, q2, _, qb, qo, q4, q5⟩ := hz
  simp only at q1 q2 q4 q5
  rw [lz_length] at q1 q4 q5 ⊢
  unfold maxLen at q2
  have HLE : Hid (∀ x ∈ l', x ≤ 8) := hle'
  obtain ⟨n, hn⟩ : ∃ n, l'.length = n := ⟨_, rfl⟩
  have HN : Hid (l'.length = n) := hn
  rw [hn] at q1 q4 q5 h8 ⊢
  have Q5 : Hid (∀ i, i < n → w.cell? ⟨qb, qo + i, none⟩ = some (.int .i64 ((lz l').getD i 0))) := q5
  clear hok hl' hle' hn q5
  go_enter Try.func16, Try.ntmps16
  go_wp2
  go_loopg [4, 6, 7, 8, 9, 10, 12, 15, 35] n (fun gg s4 _ _ _ _ _ _ s15 _ wr => ∃ (k : Nat) (va : Option Addr) (vc : Nat), k ≤ n ∧ n - k ≤ gg ∧ s15 = .int .i64 k ∧ s4 = .slice va k vc ∧ Aside (∃ W x a, run (l'.take k) = some (W, x, a) ∧ Od w wr (.slice va k vc) W))
  case atStart => exact ⟨0, none, 0, by omega, by omega, rfl, rfl, [], 0, 0, rfl, Ext.refl w, [], LW.nil _ _, rfl⟩
  case round =>
    obtain ⟨k, va, vc, hk, hgg, rfl, rfl, A⟩ := hrel
    obtain ⟨W, x, a, hrun, hO⟩ := A.out
    have HRUN : Hid (run (l'.take k) = some (W, x, a)) := hrun
    have hW : W.length = k := by
      have := congrArg List.length (run_ok hrun).2
      simp only [List.length_map, List.length_take, HN.out] at this
      omega
    have hP := (run_ok hrun).1
    have hW8 : ∀ p ∈ W, p.2 ≤ 8 := by
      intro p hp
      have : p.2 ∈ W.map (·.2) := List.mem_map.2 ⟨p, hp, rfl⟩
      rw [(run_ok hrun).2] at this
      exact HLE.out _ (List.mem_of_mem_take this)
    have HPL : Hid (Plc W x a ∧ W.length = k ∧ ∀ p ∈ W, p.2 ≤ 8) := ⟨hP, hW, hW8⟩
    have HO : Hid (Od w wr (.slice va k vc) W) := hO
    clear A hP hW8
    by_cases hlt : k < n
    · have hltz : (k : Int) < (n : Int) := by omega
      obtain rfl := q4 (by omega)
      have e1 := hO.1.cell (Q5.out k hlt)
      rw [lz_z] at e1
      have hkl : k < l'.length := by rw [HN.out]; exact hlt
      have hgb : l'.getD k 0 = l'[k] := by simp [List.getD_eq_getElem?_getD, hkl]
      have hb8 : l'.getD k 0 ≤ 8 := by rw [hgb]; exact HLE.out _ (List.getElem_mem hkl)
      have HNX : Hid (run (l'.take (k + 1)) = stp (some (W, x, a)) (l'.getD k 0)) := by
        show _ = _
        rw [run_take l' k hkl, hrun, hgb]
      clear hgb hrun hO hkl hW
      generalize l'.getD k 0 = b at *
      obtain ⟨Y, hY⟩ : ∃ Y, rsz x a b = Y := ⟨_, rfl⟩
      have HOK : Hid (∀ y, y < 2 ^ b → okT W y b k = decide (Y ≤ y)) := by
        intro y hy
        rw [← HPL.out.2.1, ← hY]
        exact okT_all HPL.out.1 hy
      have HYES : Hid (Y < 2 ^ b → run (l'.take (k + 1)) = some (W ++ [(Y, b)], Y + 1, b)) := by
        intro h
        rw [HNX.out]
        simp [stp, hY, h]
      have HNO : Hid (¬ Y < 2 ^ b → run l' = none) := by
        intro h
        refine run_stops (k := k + 1) ?_
        rw [HNX.out]
        simp [stp, hY, h]
      clear hY HNX
      have HPB : Hid (2 ^ b ≤ 256) := pow_256 hb8
      have HPW : Hid (wrap64 ((2 : Int) ^ b) = ((2 ^ b : Nat) : Int)) := pow_wrap b hb8
      obtain ⟨P, hPp⟩ : ∃ P, 2 ^ b = P := ⟨_, rfl⟩
      rw [hPp] at HOK HYES HNO HPB HPW
      clear hPp
      go_wp2
      go_loopg [4, 7, 8, 9, 10, 12, 35] (P + 1) (fun gg s4 s7 s8 _ _ _ _ wi => ∃ (y : Nat) (va : Option Addr) (vc : Nat), y ≤ P ∧ s8 = .int .i64 y ∧ ((s7 = .bool false ∧ P + 1 - y ≤ gg ∧ y ≤ Y ∧ s4 = .slice va k vc ∧ Aside (Od w wi (.slice va k vc) W)) ∨ (s7 = .bool true ∧ s4 = .slice va (k + 1) vc ∧ Aside (Y < P ∧ Od w wi (.slice va (k + 1) vc) (W ++ [(Y, b)])))))
      case atStart => exact ⟨0, va, vc, by omega, rfl, .inl ⟨rfl, by omega, by omega, rfl, HO.out⟩⟩
      case round =>
        obtain ⟨y, va, vc, hyP, rfl, (⟨rfl, hgg2, hyY, rfl, A⟩ | ⟨rfl, rfl, A⟩)⟩ := hrel
        · have HO2 : Hid (Od w wr (.slice va k vc) W) := A.out
          clear A HO
          by_cases hyp : y < P
          · have hcz : (y : Int) < wrap64 ((2 : Int) ^ b) := by
              rw [HPW.out]
              exact Int.ofNat_lt.2 hyp
            have hy256 : y < 256 := Nat.lt_of_lt_of_le hyp HPB.out
            have hdg := DG.out y b wr (by omega) hb8
            have hOKy := HOK.out y hyp
            go_wp2_with fail
            clear hcz
            refine hdg.mono ?_
            rintro e w3 ⟨⟨B, rfl, hrow⟩, hE3⟩
            have HO3 : Hid (Od w w3 (.slice va k vc) W) := HO2.out.ext hE3
            have HROW : Hid (Row w3 B 4 (bv (dg y b))) := hrow
            obtain ⟨_, hcap⟩ : True ∧ k ≤ vc := by
              obtain ⟨a', c', h1, h2, _⟩ := HO3.out.form
              injection h1 with e1 e2 e3
              have := HPL.out.2.1
              exact ⟨trivial, by omega⟩
            obtain ⟨_, hcap2⟩ : True ∧ vc ≤ 9223372036854775807 := by
              obtain ⟨a', c', h1, _, h2⟩ := HO3.out.form
              injection h1 with e1 e2 e3
              unfold maxLen at h2
              exact ⟨trivial, by omega⟩
            clear hdg hrow hE3 HO2
            go_wp2
            go_loopg [10, 12, 35] k (fun gg s10 _ s35 wq => ∃ i : Nat, i ≤ k ∧ k - i ≤ gg ∧ s35 = .int .i64 i ∧ s10 = .bool (okT W y b i) ∧ Aside (Qt w3 wq))
            case atStart => exact ⟨0, by omega, by omega, rfl, by rw [okT_zero], Qt.refl w3⟩
            case round =>
              obtain ⟨i, hi, hgg3, rfl, rfl, Q⟩ := hrel
              by_cases hik : i < k
              · have hikz : (i : Int) < (k : Int) := by omega
                have hiW : i < W.length := by rw [HPL.out.2.1]; exact hik
                obtain ⟨g, u, rfl, ec, hul, hub⟩ := (HO3.out.ext Q.out.ext).at HPL.out.2.2 i hiW
                have nk : Hid (okT W y b (i + 1) = (okT W y b i && rsB u.l (dg y b))) := by
                  show _ = _
                  rw [okT_succ W y b i hiW, hul]
                have hbw : Bits wr ⟨some ⟨B, 0, none⟩, b, dg y b⟩ := by
                  have := (HROW.out.ext Q.out.ext).bits (by rw [dg_length]; unfold maxLen; omega)
                  rw [dg_length] at this
                  exact this
                have hrs := RS.out u ⟨some ⟨B, 0, none⟩, b, dg y b⟩ wr hub hbw
                simp only [Wd.v, dg_length] at hrs ec
                clear hul hub hbw hiW
                generalize rsB u.l (dg y b) = r at *
                obtain ⟨ua, uc, ul⟩ := u
                simp only at hrs ec
                generalize ul.length = un at *
                cases hok : okT W y b i with
                | true =>
                  rw [hok, Bool.true_and] at nk
                  clear hok
                  go_wp2_with fail
                  refine hrs.mono ?_
                  rintro e w4 ⟨rfl, hq4⟩
                  have Q4 : Hid (Qt w3 w4) := Q.out.trans hq4
                  clear hq4 hrs
                  go_wp2
                  go_roundg (k - (i + 1))
                  case measure => omega
                  case rel => exact ⟨i + 1, by omega, by omega, by go_num, by rw [nk.out], Q4.out⟩
                | false =>
                  rw [hok, Bool.false_and] at nk
                  clear hok hrs
                  go_wp2
                  go_roundg (k - (i + 1))
                  case measure => omega
                  case rel => exact ⟨i + 1, by omega, by omega, by go_num, by rw [nk.out], Q.out⟩
              · have hik' : i = k := by omega
                subst hik'
                rw [hOKy]
                have HO4 : Hid (Od w wr (.slice va i vc) W) := HO3.out.ext Q.out.ext
                by_cases hYy : Y ≤ y
                · have hYe : Y = y := by omega
                  rw [decide_eq_true hYy]
                  obtain ⟨hE4, G, hG, hGW⟩ := HO4.out
                  have HG : Hid (Ext w wr ∧ LW w.heap.size wr (.slice va i vc) G ∧ G.length ≤ 1000) := by
                    refine ⟨hE4, hG, ?_⟩
                    have := congrArg List.length hGW
                    have h2 := HPL.out.2.1
                    simp [wds] at this
                    omega
                  have HR2 : Hid (Row wr B 4 (bv (dg y b))) := HROW.out.ext Q.out.ext
                  have FN : Hid (∀ v' w', Ext w w' → LW w.heap.size w' v' (G ++ [(B, dg y b)]) → ∃ va' vc', v' = .slice va' (i + 1) vc' ∧ Y < P ∧ Od w w' (.slice va' (i + 1) vc') (W ++ [(Y, b)])) := by
                    intro v' w' h1 h2
                    have hl : (G ++ [(B, dg y b)]).length = i + 1 := by
                      have := congrArg List.length hGW
                      have h3 := HPL.out.2.1
                      simp [wds] at this
                      simp
                      omega
                    obtain ⟨va', vc', hv', _⟩ := h2.form
                    rw [hl] at hv'
                    subst hv'
                    refine ⟨va', vc', rfl, by omega, h1, _, h2, ?_⟩
                    rw [hYe]
                    simp [wds, hGW]
                  have hpv : Hid (Value.slice (some ⟨B, 0, none⟩) b b = pv (B, dg y b)) := by show _ = _; simp only [pv, dg_length]
                  clear hE4 hG hGW HO4 HO3
                  go_wp2_with (at_builtin; refine wpList_appendLW rfl _ _ rfl w wr _ (by rfl) G HG.out.1 HG.out.2.1 (B, dg y b) _ hpv.out wr.heap.size (by rfl) rfl HR2.out HG.out.2.2 ?_; intro v' w4 h1 h2)
                  obtain ⟨va', vc', rfl, hYP, hOd⟩ := FN.out v' w4 h1 h2
                  have HN2 : Hid (Y < P ∧ Od w w4 (.slice va' (i + 1) vc') (W ++ [(Y, b)])) := ⟨hYP, hOd⟩
                  clear FN HG h1 h2 hOd hYP
                  go_wp2
                  go_roundg 0
                  case measure => omega
                  case rel => exact ⟨y + 1, va', vc', by omega, by go_num, .inr ⟨rfl, rfl, HN2.out⟩⟩
                · rw [decide_eq_false hYy]
                  go_wp2
                  go_roundg (P + 1 - (y + 1))
                  case measure => omega
                  case rel => exact ⟨y + 1, va, vc, by omega, by go_num, .inl ⟨rfl, by omega, by omega, rfl, HO4.out⟩⟩
          · have hyp2 : y = P := by omega
            have hcz : ¬ (y : Int) < wrap64 ((2 : Int) ^ b) := by
              rw [HPW.out]
              intro h
              have := Int.ofNat_lt.1 h
              omega
            have F : Hid (Ext w wr ∧ run l' = none) := ⟨HO2.out.1, HNO.out (by omega)⟩
            clear HO2 hyp2 hyp
            go_wp2
            clear hcz
            go_ret2
            exact ⟨F.out.1, .inl ⟨F.out.2, rfl⟩⟩
        · have NX : Hid (∃ W x a, run (l'.take (k + 1)) = some (W, x, a) ∧ Od w wr (.slice va (k + 1) vc) W) := ⟨_, _, _, HYES.out A.out.1, A.out.2⟩
          clear A HO
          by_cases hyp : (y : Int) < wrap64 ((2 : Int) ^ b)
          all_goals
            go_wp2
            clear hyp
            go_roundg (n - (k + 1))
            case measure => omega
            case rel => exact ⟨k + 1, va, vc, by omega, by omega, by go_num, rfl, NX.out⟩
    · obtain rfl : k = n := by omega
      have hltz : ¬ (k : Int) < (k : Int) := by omega
      have F : Hid (Ext w wr ∧ ∃ W, (∃ x a, run l' = some (W, x, a)) ∧ ∃ g : List Wd, g.length = k ∧ g.map (·.l) = wds W ∧ Wds wr va vc g) := by
        have hr := HRUN.out
        rw [List.take_of_length_le (by rw [HN.out]; omega)] at hr
        obtain ⟨hE, G, hG, hGW⟩ := hO
        obtain ⟨g, h1, h2, h3⟩ := hG.wds (fun p hp => by
          have : p.2 ∈ G.map (·.2) := List.mem_map.2 ⟨p, hp, rfl⟩
          rw [hGW] at this
          obtain ⟨q, hq, hq2⟩ := List.mem_map.1 this
          rw [← hq2, dg_length]
          exact HPL.out.2.2 q hq)
        exact ⟨hE, W, ⟨x, a, hr⟩, g, h1, by rw [h2, hGW], h3⟩
      clear hrun hO HO HRUN
      go_wp2
      go_ret2
      obtain ⟨hE, W, h1, g, h2, h3, h4⟩ := F.out
      exact ⟨hE, .inr ⟨W, h1, va, vc, g, by rw [h2]; rfl, h3, h4⟩⟩

end Go.Proofs.Ytakggfogoobdnaa
