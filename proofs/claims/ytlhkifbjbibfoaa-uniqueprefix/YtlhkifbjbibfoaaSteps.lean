/-
  The races that come of a race.
-/
import Derived.Test.YtlhkifbjbibfoaaStarts
import Derived.RegionTactic
import Derived.Deep.RegionLaw
namespace Go.Proofs.Ytlhkifbjbibfoaa
open Go.RowKit

set_option maxHeartbeats 2000000 in
theorem steps_any (a : Option Addr) (c : Nat) (g : List Wd) (wb w : World) (hg : Wds wb a c g) (he : Ext wb w) (hn8 : g.length ≤ 8) (hw8 : ∀ x ∈ g, x.l.length ≤ 8)
    (r : Rc) (hr : RcOk wb w r) (N : Nat) (hG : Good (wl g) r.b r.a r.t.l) (ht8 : r.t.l.length ≤ 8) (hN : r.b.length + r.a.length ≤ N) (hN1 : N ≤ 1000) (ht : r.t.l ≠ []) :
    Calls Try.prog 25 #[.slice a g.length c, .agg #[r.bv, r.av, r.t.v]] w fun e w' => ∃ v R, e = .returned v ∧ Races wb w w' v R ∧ Sp (wl g) r.t.l N (wl g).length R := by
  obtain ⟨h1, h2, hb3, b, o, h4, h5⟩ := hg
  obtain ⟨n, hn⟩ : ∃ n, g.length = n := ⟨_, rfl⟩
  have HN : Hid (g.length = n) := hn
  have HW : Hid (∀ x ∈ g, x.l.length ≤ 8) := hw8
  have H5 : Hid (∀ i (h : i < g.length), wb.cell? ⟨b, o + i, none⟩ = some (g[i].v)) := h5
  have HB : Hid (∀ i (h : i < g.length), Bits wb g[i]) := fun i h => hb3 _ (List.getElem_mem h)
  have HE : Hid (Ext wb w) := he
  have HRC : Hid (RcOk wb w r) := hr
  have HG : Hid (Good (wl g) r.b r.a r.t.l) := hG
  have HT8 : Hid (r.t.l.length ≤ 8) := ht8
  have HNN : Hid (r.b.length + r.a.length ≤ N) := hN
  have HT : Hid (r.t.l ≠ []) := ht
  unfold maxLen at h2
  rw [hn] at h1 h4 hn8 ⊢
  clear hn h5 hw8 hb3 hr hG ht8 hN ht he
  obtain ⟨rbv, rav, rb, ra, ta, tc, tl⟩ := r
  simp only at HRC HG HT8 HNN HT ⊢
  obtain ⟨m, hm⟩ : ∃ m, tl.length = m := ⟨_, rfl⟩
  have HM : Hid (tl.length = m) := hm
  simp only [Wd.v, hm]
  clear hm
  obtain ⟨bva, bvc, hbv⟩ := HRC.out.b.form
  simp only at hbv
  obtain ⟨ava, avc, hav⟩ := HRC.out.a.form
  simp only at hav
  subst hbv hav
  obtain ⟨nb, hnb⟩ : ∃ nb, rb.length = nb := ⟨_, rfl⟩
  have HNB : Hid (rb.length = nb) := hnb
  obtain ⟨na, hna⟩ : ∃ na, ra.length = na := ⟨_, rfl⟩
  have HNA : Hid (ra.length = na) := hna
  simp only [hnb, hna] at HRC HNN ⊢
  clear hnb hna
  go_enter Try.func25, Try.ntmps25
  go_wp2_with fail
  go_loopg [5, 6, 7, 8, 11] n (fun gg v _ _ _ s wr => ∃ i : Nat, i ≤ n ∧ n - i ≤ gg ∧ s = .int .i64 i ∧ Aside (RS wb (w.alloc (.cells #[.slice bva nb bvc, .slice ava na avc, .slice ta m tc] 46)) wr v (Sp (wl g) tl N i)))
  case atStart => exact ⟨0, Nat.zero_le _, by omega, rfl, [], Races.nil (Ext.refl _), sp_zero _ _ _⟩
  case round =>
    obtain ⟨i, hi, hgg, rfl, A⟩ := hrel
    by_cases hlt : i < n
    · have hltz : (i : Int) < (n : Int) := by omega
      obtain rfl := h4 (by omega)
      have hil : i < g.length := by rw [HN.out]; exact hlt
      have hil' : i < (wl g).length := by simpa using hil
      obtain ⟨x, hx⟩ : ∃ x, g[i] = x := ⟨_, rfl⟩
      have HX : Hid ((wl g)[i] = x.l) := by show _ = _; rw [← hx]; simp
      have HBX : Hid (Bits wb x) := by rw [← hx]; exact HB.out i hil
      have HX8 : Hid (x.l.length ≤ 8) := by rw [← hx]; exact HW.out _ (List.getElem_mem hil)
      have EW : Hid (Ext wb wr) := (HE.out.alloc _).trans A.out.ext
      have e1 : wr.cell? ⟨b, o + i, none⟩ = some x.v := by
        rw [← hx]
        exact EW.out.cell (H5.out i hil)
      clear hx
      obtain ⟨xa, xc, xl⟩ := x
      simp only [Wd.v] at e1
      obtain ⟨q, hq⟩ : ∃ q, xl.length = q := ⟨_, rfl⟩
      have HQ : Hid (xl.length = q) := hq
      rw [hq] at e1
      clear hq h4
      have row : (w.alloc (.cells #[.slice bva nb bvc, .slice ava na avc, .slice ta m tc] 46)).heap[w.heap.size]? = some (.cells #[.slice bva nb bvc, .slice ava na avc, .slice ta m tc] 46 (0, 0)) := heap_alloc_new _ _
      have c0 : wr.cell? ⟨w.heap.size, 0, none⟩ = some (.slice bva nb bvc) := A.out.ext.cell (by rw [cell_of_row _ _ _ _ 46 (0, 0) row]; rfl)
      have c1 : wr.cell? ⟨w.heap.size, 1, none⟩ = some (.slice ava na avc) := A.out.ext.cell (by rw [cell_of_row _ _ _ _ 46 (0, 0) row]; rfl)
      have c2 : wr.cell? ⟨w.heap.size, 2, none⟩ = some (.slice ta m tc) := A.out.ext.cell (by rw [cell_of_row _ _ _ _ 46 (0, 0) row]; rfl)
      clear row
      have EA : Hid (Ext w wr) := ((Ext.refl w).alloc _).trans A.out.ext
      have hcl : Calls Try.prog 33 #[.slice bva nb bvc] wr fun e w' => ∃ v, e = .returned v ∧ OwnN wr w' v rb := by
        obtain ⟨y, hy, hz, hn⟩ := (HRC.out.b.ext EA.out).nums
        have hl : rb.length ≤ 1000 := by have := HNN.out; have := HNB.out; omega
        simp only at hy hz
        rw [hy, ← hz]
        refine clone_any y wr hn ?_
        rw [hz]
        omega
      have LB : Hid ((rb.length + 1) * 8 ≤ 140737488355328) := by
        have hl : rb.length ≤ 1000 := by have := HNN.out; have := HNB.out; omega
        show _ ≤ _
        omega
      go_upto_region 6 with (first | (go_at_call 33; refine hcl.mono ?_; rintro e w1 ⟨v1, rfl, B1⟩) | (at_builtin; refine wpList_appendNum rfl _ _ rfl wr w1 _ (by rfl) _ B1 (i : Int) (by rfl) LB.out ?_; intro v2 w2 B2))
      have c1 := B2.1.cell c1
      have c2 := B2.1.cell c2
      have A2 : Hid (RS wb (w.alloc (.cells #[.slice bva nb bvc, .slice ava na avc, .slice ta m tc] 46)) w2 u5 (Sp (wl g) tl N i)) := A.out.mono B2.1
      have EA2 : Hid (Ext w w2) := EA.out.trans B2.1
      have L2 : Hid (LN w2 v2 (rb ++ [(i : Int)])) := B2.ln
      have hc := begins_any ⟨xa, xc, xl⟩ ⟨ta, tc, tl⟩ w2 (HBX.out.ext (EW.out.trans B2.1)) (HRC.out.t.ext (HE.out.trans EA2.out))
      simp only [Wd.v] at hc
      rw [HQ.out, HM.out] at hc
      clear hcl B1 B2 A EW EA c0 e1 LB
      obtain ⟨la, lc, hv2⟩ := L2.out.form
      obtain ⟨nl, hnl⟩ : ∃ nl, (rb ++ [(i : Int)]).length = nl := ⟨_, rfl⟩
      rw [hnl] at hv2
      clear hnl
      subst hv2
      cases hpre : xl.isPrefixOf tl
      · rw [hpre] at hc
        have HPX : Hid ((wl g)[i].isPrefixOf tl = false) := by rw [HX.out]; exact hpre
        go_upto_region 8 with (go_at_call 32; refine hc.mono ?_; rintro e w3 ⟨rfl, hb⟩)
        have c1 := hb.cell c1
        have c2 := hb.cell c2
        have A3 : Hid (RS wb (w.alloc (.cells #[.slice bva nb bvc, .slice ava na avc, .slice ta m tc] 46)) w3 u5 (Sp (wl g) tl N i)) := A2.out.mono hb.ext
        have E3 : Hid (Ext w w3) := EA2.out.trans hb.ext
        have L3 : Hid (LN w3 (.slice la nl lc) (rb ++ [(i : Int)])) := L2.out.ext hb.ext
        have hd := begins_any ⟨ta, tc, tl⟩ ⟨xa, xc, xl⟩ w3 (HRC.out.t.ext (HE.out.trans E3.out)) (HBX.out.ext (HE.out.trans E3.out))
        simp only [Wd.v] at hd
        rw [HQ.out, HM.out] at hd
        clear hc A2 L2 EA2 hb hpre
        cases hpre : tl.isPrefixOf xl
        · rw [hpre] at hd
          have HPT : Hid (tl.isPrefixOf (wl g)[i] = false) := by rw [HX.out]; exact hpre
          go_wp2_with (go_at_call 32; refine hd.mono ?_; rintro e w4 ⟨rfl, hb⟩)
          go_roundg (n - (i + 1))
          case measure => omega
          case rel => exact ⟨i + 1, by omega, by omega, by go_num, (A3.out.mono hb.ext).imp (fun R h => sp_skip h hil' HPX.out HPT.out)⟩
        · rw [hpre] at hd
          have hmq : m ≤ q := by
            have := (List.isPrefixOf_iff_prefix.1 hpre).length_le
            rw [HQ.out, HM.out] at this
            exact this
          go_wp2_with (go_at_call 32; refine hd.mono ?_; rintro e w4 ⟨rfl, hb⟩; have c1 := hb.cell c1; have c2 := hb.cell c2)
          have A4 : Hid (RS wb (w.alloc (.cells #[.slice bva nb bvc, .slice ava na avc, .slice ta m tc] 46)) w4 u5 (Sp (wl g) tl N i)) := A3.out.mono hb.ext
          have L4 : Hid (LN w4 (.slice la nl lc) (rb ++ [(i : Int)])) := L3.out.ext hb.ext
          have LA4 : Hid (LN w4 (.slice ava na avc) ra) := HRC.out.a.ext (E3.out.trans hb.ext)
          have hgood : Hid (∀ r : Rc, r.b = ra → r.a = rb ++ [(i : Int)] → r.t.l = xl.drop m → Sound (wl g) (N + 1) [r] ∧ r.t.l = (wl g)[i].drop tl.length) := by
            intro r h1 h2 h3
            have hd : r.t.l = (wl g)[i].drop tl.length := by rw [h3, HX.out, HM.out]
            refine ⟨sound_one ?_ ?_ ?_, hd⟩
            · rw [h1, h2, hd]
              exact good_ahead HG.out HT.out hil' (by rw [HX.out]; exact hpre)
            · rw [h3, List.length_drop]
              exact Nat.le_trans (Nat.sub_le _ _) HX8.out
            · rw [h1, h2, List.length_append, HNB.out, HNA.out]
              have := HNN.out
              simp only [List.length_singleton]
              omega
          clear hd A3 L3 E3 hb hpre
          by_cases hcq : xc = m
          · subst hcq
            obtain ⟨t1, t2, t3⟩ := HBX.out.restA (by rw [HQ.out]; exact hmq)
            have hmq : q = xc := by rw [← HQ.out]; exact t3
            subst hmq
            have T1 : Hid (Bits wb ⟨xa, 0, []⟩) := t1
            have T2 : Hid (xl.drop q = []) := t2
            clear t1 t2 t3
            go_region_law (refine step_appendOne rfl (.tmp 42) (.tmp 52) rfl wb _ w4 u5 (by rfl) A4.out (Rc.mk (.slice ava na avc) (.slice la nl lc) ra (rb ++ [(i : Int)]) ⟨xa, 0, []⟩) _ (by simp) _ (by rfl) (by simp) ⟨LA4.out, L4.out, T1.out⟩ (fun R h => by have := h.few; omega) (fun R h => sp_ahead h hil' (hgood.out _ rfl rfl T2.out.symm).1 HPX.out (hgood.out _ rfl rfl T2.out.symm).2) ?_; intro v' w1 B)
            all_goals (go_wp2; go_roundg (n - (i + 1)))
            all_goals (first | omega | exact ⟨i + 1, by omega, by omega, by go_num, B⟩)
          · obtain ⟨ad, hya, t1⟩ := HBX.out.restB (by rw [HQ.out]; exact hmq) hcq
            have T1 : Hid (Bits wb ⟨some (ad.add m), xc - m, xl.drop m⟩) := t1
            have hcqz : ¬ (xc : Int) = (m : Int) := by omega
            subst hya
            clear t1
            have hyc := HBX.out.1
            have hym := HBX.out.2.1
            unfold maxLen at hym
            simp only [HQ.out] at hyc hym
            have TV : Hid (Value.slice (some (ad.add m)) (q - m) (xc - m) = (Wd.mk (some (ad.add m)) (xc - m) (xl.drop m)).v) := by
              show _ = _
              simp only [Wd.v, List.length_drop, HQ.out]
            go_region_law (refine step_appendOne rfl (.tmp 42) (.tmp 52) rfl wb _ w4 u5 (by rfl) A4.out (Rc.mk (.slice ava na avc) (.slice la nl lc) ra (rb ++ [(i : Int)]) ⟨some (ad.add m), xc - m, xl.drop m⟩) _ TV.out _ (by rfl) (by simp) ⟨LA4.out, L4.out, T1.out⟩ (fun R h => by have := h.few; omega) (fun R h => sp_ahead h hil' (hgood.out _ rfl rfl rfl).1 HPX.out (hgood.out _ rfl rfl rfl).2) ?_; intro v' w1 B)
            all_goals (go_wp2; go_roundg (n - (i + 1)))
            all_goals (first | omega | exact ⟨i + 1, by omega, by omega, by go_num, B⟩)
      · rw [hpre] at hc
        have hqm : q ≤ m := by
          have := (List.isPrefixOf_iff_prefix.1 hpre).length_le
          rw [HQ.out, HM.out] at this
          exact this
        go_wp2_with (go_at_call 32; refine hc.mono ?_; rintro e w3 ⟨rfl, hb⟩; have c1 := hb.cell c1; have c2 := hb.cell c2)
        have A3 : Hid (RS wb (w.alloc (.cells #[.slice bva nb bvc, .slice ava na avc, .slice ta m tc] 46)) w3 u5 (Sp (wl g) tl N i)) := A2.out.mono hb.ext
        have L3 : Hid (LN w3 (.slice la nl lc) (rb ++ [(i : Int)])) := L2.out.ext hb.ext
        have LA3 : Hid (LN w3 (.slice ava na avc) ra) := HRC.out.a.ext (EA2.out.trans hb.ext)
        have hgood : Hid (∀ r : Rc, r.b = rb ++ [(i : Int)] → r.a = ra → r.t.l = tl.drop q → Sound (wl g) (N + 1) [r] ∧ r.t.l = tl.drop (wl g)[i].length) := by
          intro r h1 h2 h3
          have hd : r.t.l = tl.drop (wl g)[i].length := by rw [h3, HX.out, HQ.out]
          refine ⟨sound_one ?_ ?_ ?_, hd⟩
          · rw [h1, h2, hd]
            exact good_behind HG.out HT.out hil' (by rw [HX.out]; exact hpre)
          · rw [h3, List.length_drop]
            exact Nat.le_trans (Nat.sub_le _ _) HT8.out
          · rw [h1, h2, List.length_append, HNB.out, HNA.out]
            have := HNN.out
            simp only [List.length_singleton]
            omega
        have HPX : Hid ((wl g)[i].isPrefixOf tl = true) := by rw [HX.out]; exact hpre
        have HTB : Hid (Bits wb ⟨ta, tc, tl⟩) := HRC.out.t
        clear hc A2 L2 EA2 hb HBX hpre
        by_cases hcq : tc = q
        · subst hcq
          obtain ⟨t1, t2, t3⟩ := HTB.out.restA (by rw [HM.out]; exact hqm)
          have hmq : m = tc := by rw [← HM.out]; exact t3
          subst hmq
          have T1 : Hid (Bits wb ⟨ta, 0, []⟩) := t1
          have T2 : Hid (tl.drop m = []) := t2
          clear t1 t2 t3
          go_region_law (refine step_appendOne rfl (.tmp 26) (.tmp 36) rfl wb _ w3 u5 (by rfl) A3.out (Rc.mk (.slice la nl lc) (.slice ava na avc) (rb ++ [(i : Int)]) ra ⟨ta, 0, []⟩) _ (by simp) _ (by rfl) (by simp) ⟨L3.out, LA3.out, T1.out⟩ (fun R h => by have := h.few; omega) (fun R h => sp_behind h hil' (hgood.out _ rfl rfl T2.out.symm).1 HPX.out (hgood.out _ rfl rfl T2.out.symm).2) ?_; intro v' w1 B)
          all_goals (go_wp2; go_roundg (n - (i + 1)))
          all_goals (first | omega | exact ⟨i + 1, by omega, by omega, by go_num, B⟩)
        · obtain ⟨ad, hya, t1⟩ := HTB.out.restB (by rw [HM.out]; exact hqm) hcq
          have T1 : Hid (Bits wb ⟨some (ad.add q), tc - q, tl.drop q⟩) := t1
          have hcqz : ¬ (tc : Int) = (q : Int) := by omega
          subst hya
          clear t1
          have hyc := HTB.out.1
          have hym := HTB.out.2.1
          unfold maxLen at hym
          simp only [HM.out] at hyc hym
          have TV : Hid (Value.slice (some (ad.add q)) (m - q) (tc - q) = (Wd.mk (some (ad.add q)) (tc - q) (tl.drop q)).v) := by
            show _ = _
            simp only [Wd.v, List.length_drop, HM.out]
          go_region_law (refine step_appendOne rfl (.tmp 26) (.tmp 36) rfl wb _ w3 u5 (by rfl) A3.out (Rc.mk (.slice la nl lc) (.slice ava na avc) (rb ++ [(i : Int)]) ra ⟨some (ad.add q), tc - q, tl.drop q⟩) _ TV.out _ (by rfl) (by simp) ⟨L3.out, LA3.out, T1.out⟩ (fun R h => by have := h.few; omega) (fun R h => sp_behind h hil' (hgood.out _ rfl rfl rfl).1 HPX.out (hgood.out _ rfl rfl rfl).2) ?_; intro v' w1 B)
          all_goals (go_wp2; go_roundg (n - (i + 1)))
          all_goals (first | omega | exact ⟨i + 1, by omega, by omega, by go_num, B⟩)
    · have A2 : Hid (RS wb w wr u5 (Sp (wl g) tl N (wl g).length)) := by
        have hjn : i = (wl g).length := by have := HN.out; simp; omega
        exact (A.out.base ((Ext.refl w).alloc _)).imp (fun R h => hjn ▸ h)
      clear A
      go_wp2
      go_ret
      obtain ⟨R, hR, hS⟩ := A2.out
      exact ⟨_, R, rfl, hR, hS⟩

end Go.Proofs.Ytlhkifbjbibfoaa
