/-
  quipuref.Joined: the walk.
-/
import Derived.Test.YtjgheojfdkfmkaaRfj
import Derived.Deep.CutRange
namespace Go.Proofs.Ytjgheojfdkfmkaa
open Go.RowKit

set_option maxHeartbeats 8000000 in
theorem joined_any (x : Pm) (w : World) (hx : Phs w x) :
    Calls Try.prog 11 #[x.v] w fun e w' => Ext w w' ∧ ∃ y : Wd, Bits w' y ∧ y.l = jtx x.g ∧ e = .returned (.tuple #[y.v, .int .i64 (jer x.g)]) := by
  have h1 := hx.1
  have h2 := hx.2.1
  unfold maxLen at h2
  by_cases hm : 64 < x.g.length
  · obtain ⟨j1, j2⟩ := jer_many hm
    rw [j1, j2]
    obtain ⟨a, c, g⟩ := x
    simp only [Pm.v] at *
    clear hx j1 j2
    generalize g.length = n at *
    have hn : (n : Int) > 64 := by omega
    go_enter Try.func11, Try.ntmps11
    go_wp2
    go_ret2
    exact ⟨Ext.refl _, ⟨none, 0, []⟩, bits_none _, rfl, rfl⟩
  · have HJW : Hid (¬ Vd x.g → jer x.g = 2 ∧ jtx x.g = []) := jer_wrong hm
    have HJ1 : Hid (Vd x.g → 64 < (joined x.g).length → jer x.g = 1 ∧ jtx x.g = []) := jer_long hm
    have HJ2 : Hid (Vd x.g → ¬ 64 < (joined x.g).length → jer x.g = 0 ∧ jtx x.g = joined x.g) := jer_good hm
    obtain ⟨a, c, g⟩ := x
    obtain ⟨_, _, _, b, o, h3, h4'⟩ := hx
    have h4 := Phs.cells h4'
    simp only [Pm.v] at *
    obtain ⟨n, hn⟩ : ∃ n, g.length = n := ⟨_, rfl⟩
    have HN : Hid (g.length = n) := hn
    have H4 : Hid (∀ i, i < n → w.cell? ⟨b, o + i * 2, none⟩ = some (.int .i64 (g.getD i (0, 0)).1) ∧ w.cell? ⟨b, o + i * 2 + 1, none⟩ = some (.int .u8 (g.getD i (0, 0)).2)) := fun i hi => h4 i (by rw [hn]; exact hi)
    rw [hn] at hm h3 h1 ⊢
    clear hn h4 h4'
    have hnz : ¬ ((n : Int) > 64) := by omega
    go_enter Try.func11, Try.ntmps11
    go_wp2
    go_loopg [4, 5, 16] n (fun gg _ _ s wr => ∃ k : Nat, k ≤ n ∧ n - k ≤ gg ∧ s = .int .i64 k ∧ Aside (Ext w wr) ∧ Aside (∀ i, i < k → 0 ≤ (g.getD i (0, 0)).1 ∧ (g.getD i (0, 0)).1 ≤ i))
    case atStart => exact ⟨0, Nat.zero_le _, by omega, rfl, Ext.refl w, fun j hj => absurd hj (Nat.not_lt_zero _)⟩
    case round =>
      obtain ⟨k, hk, hg, rfl, BW, A⟩ := hrel
      by_cases hlt : k < n
      · have hltz : (k : Int) < (n : Int) := by omega
        obtain rfl := h3 (by omega)
        obtain ⟨e1, e2⟩ := H4.out k hlt
        have e1 := BW.out.cell e1
        have e2 := BW.out.cell e2
        clear h3 H4 HJ1 HJ2
        generalize hy1 : (g.getD k (0, 0)).1 = y1 at e1
        generalize (g.getD k (0, 0)).2 = y2 at e2
        have Y : Aside ((g.getD k (0, 0)).1 = y1) := hy1
        clear hy1
        by_cases hneg : y1 < 0 ∨ y1 > (k : Int)
        · have F : Hid (jer g = 2 ∧ jtx g = []) := HJW.out (fun h => by
            have h7 : k < g.length := by rw [HN.out]; exact hlt
            have h5 := h k h7
            have h6 := Y.out
            simp only [List.getD_eq_getElem?_getD, List.getElem?_eq_getElem h7, Option.getD_some] at h6
            omega)
          clear Y A HJW
          by_cases hn1 : y1 < 0
          · clear hneg
            go_wp2
            go_ret2
            obtain ⟨j1, j2⟩ := F.out
            rw [j1, j2]
            exact ⟨BW.out.alloc _, ⟨none, 0, []⟩, bits_none _, rfl, rfl⟩
          · have hn2 : y1 > (k : Int) := by omega
            clear hneg
            go_wp2
            go_ret2
            obtain ⟨j1, j2⟩ := F.out
            rw [j1, j2]
            exact ⟨BW.out.alloc _, ⟨none, 0, []⟩, bits_none _, rfl, rfl⟩
        · have hn1 : ¬ y1 < 0 := fun h => hneg (.inl h)
          have hn2 : ¬ y1 > (k : Int) := fun h => hneg (.inr h)
          have go : Aside (∀ i, i < k + 1 → 0 ≤ (g.getD i (0, 0)).1 ∧ (g.getD i (0, 0)).1 ≤ i) := fun i hi => by
            rcases Nat.lt_succ_iff_lt_or_eq.1 hi with h' | rfl
            · exact A.out i h'
            · rw [Y.out]; omega
          clear Y A hneg HJW
          go_wp2
          go_roundg (n - (k + 1))
          case measure => omega
          case rel => exact ⟨k + 1, by omega, by omega, by go_num, BW.out.alloc _, go.out⟩
      · have hkn : k = n := by omega
        subst hkn
        have HV : Hid (Vd g) := fun i hi => by
          have h5 := A.out i (by have := HN.out; omega)
          simpa only [List.getD_eq_getElem?_getD, List.getElem?_eq_getElem hi, Option.getD_some] using h5
        clear A HJW
        obtain ⟨wo, rfl⟩ : ∃ wo, wo = wr := ⟨_, rfl⟩
        go_wp2_with fail
        go_loopg [6, 7, 9, 10, 34] k (fun gg kv ov _ _ s wr => ∃ (i km kc : Nat) (ka : Option Addr) (X : List Wd), i ≤ k ∧ k - i ≤ gg ∧ km = i + 1 ∧ s = .int .i64 i ∧ kv = .slice ka km kc ∧ Aside (JM g w wr (.slice ka km kc) ov i X))
        case atStart => exact ⟨0, 1, 1, _, _, by omega, by omega, rfl, rfl, rfl, JM.start g BW.out⟩
        case round =>
          obtain ⟨i, km, kc, ka, X, hi, hgg, hkm, rfl, rfl, A⟩ := hrel
          have hXl : X.length = i + 1 := by rw [A.out.lw.w.len, hkm]
          subst hkm
          by_cases hlt : i < k
          · have hltz : (i : Int) < (k : Int) := by omega
            obtain rfl := h3 (by omega)
            obtain ⟨e1, e2⟩ := H4.out i hlt
            have e1 := A.out.lw.ext.cell e1
            have e2 := A.out.lw.ext.cell e2
            clear H4
            have hig : i < g.length := by rw [HN.out]; exact hlt
            have hvi : 0 ≤ (g.getD i (0, 0)).1 ∧ (g.getD i (0, 0)).1 ≤ i := by
              have := HV.out i hig
              simpa [List.getD_eq_getElem?_getD, hig] using this
            have HGD : Hid (∃ ph, g.getD i (0, 0) = ph ∧ ph = g.getD i (0, 0)) := ⟨_, rfl, rfl⟩
            generalize hph : g.getD i (0, 0) = ph at *
            have HPH : Hid (g.getD i (0, 0) = ph) := hph
            clear hph HGD
            obtain ⟨p, y⟩ := ph
            simp only at e1 e2 hvi
            obtain ⟨j, rfl⟩ := Int.eq_ofNat_of_zero_le hvi.1
            have hji : j ≤ i := by omega
            obtain ⟨G, rfl, hG⟩ := A.out.lw.w.at j (by omega)
            have HJX : Hid (j < X.length) := by show _ < _; omega
            have hjX : j < X.length := by omega
            have hm5 : X[j] ∈ X := List.getElem_mem hjX
            generalize hzz : X[j] = z at hG hm5
            have HZZ : Hid (∃ h : j < X.length, X[j] = z) := ⟨hjX, hzz⟩
            have HZF : Hid (z.a = none ∨ 0 < z.l.length) := A.out.full z hm5
            have HZB : Hid (LB wr z) := A.out.lw.ok z hm5
            have HZS : Hid (z.l.length ≤ 64) := by
              have h5 : z.l ∈ tx (g.take i) := by
                rw [← A.out.txt]
                exact List.mem_map_of_mem hm5
              have := tx_short h5
              rw [List.length_take] at this
              show _ ≤ _
              omega
            have HOS : Hid ((joined (g.take i)).length ≤ 4160) := joined_short (by rw [List.length_take]; omega)
            have HXL : Hid (X.length = i + 1) := hXl
            clear hzz hvi hXl hig hjX hm5
            obtain ⟨za, zc, zl⟩ := z
            simp only [Wd.v] at hG
            obtain ⟨q, hq⟩ : ∃ q, zl.length = q := ⟨_, rfl⟩
            have HQ : Hid (Value.slice za q zc = Wd.v ⟨za, zc, zl⟩) := by show _ = _; rw [Wd.v, hq]
            rw [hq] at hG
            clear hq
            go_upto_region 14 with fail
            have E0 : Hid (Ext wr (wr.alloc (.cells #[.int .i64 (j : Int), .int .u8 y] 35))) := (Ext.refl _).alloc _
            have c0 : (wr.alloc (.cells #[.int .i64 (j : Int), .int .u8 y] 35)).cell? ⟨wr.heap.size, 0, none⟩ = some (.int .i64 (j : Int)) := by rw [cell_of_row _ _ _ _ 35 (0, 0) (heap_alloc_new _ _)]; rfl
            have c1 : (wr.alloc (.cells #[.int .i64 (j : Int), .int .u8 y] 35)).cell? ⟨wr.heap.size, 1, none⟩ = some (.int .u8 y) := by rw [cell_of_row _ _ _ _ 35 (0, 0) (heap_alloc_new _ _)]; rfl
            have cG := E0.out.cell hG
            generalize wr.alloc (.cells #[.int .i64 (j : Int), .int .u8 y] 35) = W0 at *
            go_cut [10] from 35 to 56 (fun s10 wx => Aside (OwnB W0 wx s10 (zl ++ [y])))
            case first =>
              have hjn : ¬ ((i : Int) + 1 ≤ (j : Int)) := by omega
              have E00 : Hid (Ext wr W0) := E0.out
              refine wp_region_mix (fun W => Ext W0 W) 12 (by rfl) (by kernel_rfl) ?_
              refine wpMix_take (v := .slice (some ⟨G, 0, none⟩) (i + 1) kc) 1 (by rfl) (by kernel_rfl) ⟨by rfl, ?_⟩ ?_
              · rintro W -
                go_simp
              refine wpMix_take (v := .pointer (some ⟨wr.heap.size, 0, none⟩)) 2 (by rfl) (by kernel_rfl) ⟨by rfl, ?_⟩ ?_
              · rintro W -
                go_simp
              refine wpMix_take (v := .int .i64 (j : Int)) 3 (by rfl) (by kernel_rfl) ⟨by rfl, ?_⟩ ?_
              · rintro W hW
                have ce := hW.cell c0
                go_simp
              refine wpMix_take (v := .pointer (some ⟨G, j, none⟩)) 4 (by rfl) (by kernel_rfl) ⟨by rfl, ?_⟩ ?_
              · rintro W -
                go_simp
              refine wpMix_take (v := .slice za q zc) 5 (by rfl) (by kernel_rfl) ⟨by rfl, ?_⟩ ?_
              · rintro W hW
                have ce := hW.cell cG
                go_simp
              refine wpMix_take (v := .pointer (some ⟨wr.heap.size, 1, none⟩)) 7 (by rfl) (by kernel_rfl) ⟨by rfl, ?_⟩ ?_
              · rintro W -
                go_simp
              refine wpMix_take (v := .int .u8 y) 8 (by rfl) (by kernel_rfl) ⟨by rfl, ?_⟩ ?_
              · rintro W hW
                have ce := hW.cell c1
                go_simp
              have EA : Hid (Ext W0 W0.drew) := ext_drew _
              clear A HJ1 HJ2 HOS HXL HZZ HPH hG hjn c0 c1 cG e1 e2 HV E0
              generalize W0.drew = W1 at *
              refine wpMix_two 0 9 (by kernel_rfl) EA.out ?_ ?_
              · refine mOp_value (v := .slice (some ⟨W1.heap.size, 0, none⟩) 0 0) (w' := W1.alloc (.cells #[] 5)) (by rfl) (by rfl) ?_ ?_
                · go_simp
                have EB : Hid (Ext W0 (W1.alloc (.cells #[] 5))) := EA.out.alloc _
                have K0 : Hid ((W1.alloc (.cells #[] 5)).heap[W1.heap.size]? = some (.cells #[] 5)) := heap_alloc_new _ _
                have S0 : Hid (W0.heap.size ≤ W1.heap.size) := EA.out.size
                clear EA
                generalize W1.heap.size = n0 at *
                generalize W1.alloc (.cells #[] 5) = W2 at *
                refine wpMix_two 6 9 (by kernel_rfl) EB.out ?_ ?_
                · obtain ⟨v6, W3, hr6, ho6, he6⟩ := run_append_new 22 W0 W2 n0 K0.out S0.out EB.out ⟨za, zc, zl⟩ (HZB.out.bits.ext (E00.out.trans EB.out)) (by have := HZS.out; simp only at this ⊢; omega) HZF.out
                  rw [← HQ.out] at hr6
                  refine mOp_value (v := v6) (w' := W3) (by rfl) (by rfl) ?_ ?_
                  · exact exec_append _ _ (.tmp 38) (.tmp 43) 22 (by rfl) (.slice (some ⟨n0, 0, none⟩) 0 0) (.slice za q zc) _ _ W3 (by simp [Act.eval, Act.put]) (by simp [Act.eval, Act.put]) hr6
                  have EC : Hid (Ext W0 W3) := EB.out.trans he6
                  have O6 : Hid (OwnB W0 W3 v6 zl) := ho6
                  clear hr6 ho6 he6 EB K0 S0
                  refine wpMix_only 9 (by kernel_rfl) EC.out ?_
                  refine mOp_value (v := .slice (some ⟨W3.heap.size, 0, none⟩) 1 1) (w' := W3.alloc (.cells #[.int .u8 y] 5)) (by rfl) (by rfl) ?_ ?_
                  · go_simp
                  have ED : Hid (Ext W0 (W3.alloc (.cells #[.int .u8 y] 5))) := EC.out.alloc _
                  have K9 : Hid ((W3.alloc (.cells #[.int .u8 y] 5)).heap[W3.heap.size]? = some (.cells #[.int .u8 y] 5)) := heap_alloc_new _ _
                  have O7 : Hid (OwnB W0 (W3.alloc (.cells #[.int .u8 y] 5)) v6 zl) := O6.out.ext ((Ext.refl _).alloc _)
                  clear O6
                  have O6 := O7
                  clear O7
                  clear EC
                  generalize W3.heap.size = n9 at *
                  generalize W3.alloc (.cells #[.int .u8 y] 5) = W4 at *
                  refine wpMix_only 10 (by kernel_rfl) ED.out ?_
                  obtain ⟨vf, Wf, hrf, hof, hgf⟩ := run_append_one 22 W0 W4 v6 zl O6.out n9 y K9.out (by have := HZS.out; simp only at this; omega)
                  refine mOp_value (v := vf) (w' := Wf) (by rfl) (by rfl) ?_ ?_
                  · exact exec_append _ _ (.tmp 44) (.tmp 47) 22 (by rfl) v6 (.slice (some ⟨n9, 0, none⟩) 1 1) _ _ Wf (by simp [Act.eval, Act.put]) (by simp [Act.eval, Act.put]) hrf
                  have OF : Hid (OwnB W0 Wf vf (zl ++ [y])) := hof
                  clear hrf hof hgf O6 K9 ED
                  refine wpMix_lastv (v := vf) (w' := Wf) 11 (by kernel_rfl) (by kernel_rfl) (by rfl) (by rfl) OF.out.1 ?_ OF.out.1 ?_
                  · go_simp
                  simp only [Act.put, List.setIfInBounds_toArray, List.set_cons_zero, List.set_cons_succ]
                  go_wp2_with fail
                  go_meet
                  case rel => exact OF.out
                · refine mOp_value (v := .slice (some ⟨W2.heap.size, 0, none⟩) 1 1) (w' := W2.alloc (.cells #[.int .u8 y] 5)) (by rfl) (by rfl) ?_ ?_
                  · go_simp
                  have EC : Hid (Ext W0 (W2.alloc (.cells #[.int .u8 y] 5))) := EB.out.alloc _
                  have K9 : Hid ((W2.alloc (.cells #[.int .u8 y] 5)).heap[W2.heap.size]? = some (.cells #[.int .u8 y] 5)) := heap_alloc_new _ _
                  have K00 : Hid ((W2.alloc (.cells #[.int .u8 y] 5)).heap[n0]? = some (.cells #[] 5)) := by show _ = _; rw [heap_alloc_old _ _ (lt_of_block K0.out)]; exact K0.out
                  clear K0
                  have K0 := K00
                  clear K00
                  clear EB
                  generalize W2.heap.size = n9 at *
                  generalize W2.alloc (.cells #[.int .u8 y] 5) = W3 at *
                  refine wpMix_only 6 (by kernel_rfl) EC.out ?_
                  obtain ⟨v6, W4, hr6, ho6, he6⟩ := run_append_new 22 W0 W3 n0 K0.out S0.out EC.out ⟨za, zc, zl⟩ (HZB.out.bits.ext (E00.out.trans EC.out)) (by have := HZS.out; simp only at this ⊢; omega) HZF.out
                  rw [← HQ.out] at hr6
                  refine mOp_value (v := v6) (w' := W4) (by rfl) (by rfl) ?_ ?_
                  · exact exec_append _ _ (.tmp 38) (.tmp 43) 22 (by rfl) (.slice (some ⟨n0, 0, none⟩) 0 0) (.slice za q zc) _ _ W4 (by simp [Act.eval, Act.put]) (by simp [Act.eval, Act.put]) hr6
                  have ED : Hid (Ext W0 W4) := EC.out.trans he6
                  have O6 : Hid (OwnB W0 W4 v6 zl) := ho6
                  have K99 : Hid (W4.heap[n9]? = some (.cells #[.int .u8 y] 5)) := by show _ = _; rw [he6.block _ (lt_of_block K9.out)]; exact K9.out
                  clear K9
                  have K9 := K99
                  clear K99
                  clear hr6 ho6 he6 EC K0 S0
                  refine wpMix_only 10 (by kernel_rfl) ED.out ?_
                  obtain ⟨vf, Wf, hrf, hof, hgf⟩ := run_append_one 22 W0 W4 v6 zl O6.out n9 y K9.out (by have := HZS.out; simp only at this; omega)
                  refine mOp_value (v := vf) (w' := Wf) (by rfl) (by rfl) ?_ ?_
                  · exact exec_append _ _ (.tmp 44) (.tmp 47) 22 (by rfl) v6 (.slice (some ⟨n9, 0, none⟩) 1 1) _ _ Wf (by simp [Act.eval, Act.put]) (by simp [Act.eval, Act.put]) hrf
                  have OF : Hid (OwnB W0 Wf vf (zl ++ [y])) := hof
                  clear hrf hof hgf O6 K9 ED
                  refine wpMix_lastv (v := vf) (w' := Wf) 11 (by kernel_rfl) (by kernel_rfl) (by rfl) (by rfl) OF.out.1 ?_ OF.out.1 ?_
                  · go_simp
                  simp only [Act.put, List.setIfInBounds_toArray, List.set_cons_zero, List.set_cons_succ]
                  go_wp2_with fail
                  go_meet
                  case rel => exact OF.out
              · refine mOp_value (v := .slice (some ⟨W1.heap.size, 0, none⟩) 1 1) (w' := W1.alloc (.cells #[.int .u8 y] 5)) (by rfl) (by rfl) ?_ ?_
                · go_simp
                have EB : Hid (Ext W0 (W1.alloc (.cells #[.int .u8 y] 5))) := EA.out.alloc _
                have K9 : Hid ((W1.alloc (.cells #[.int .u8 y] 5)).heap[W1.heap.size]? = some (.cells #[.int .u8 y] 5)) := heap_alloc_new _ _
                clear EA
                generalize W1.heap.size = n9 at *
                generalize W1.alloc (.cells #[.int .u8 y] 5) = W2 at *
                refine wpMix_only 0 (by kernel_rfl) EB.out ?_
                refine mOp_value (v := .slice (some ⟨W2.heap.size, 0, none⟩) 0 0) (w' := W2.alloc (.cells #[] 5)) (by rfl) (by rfl) ?_ ?_
                · go_simp
                have EC : Hid (Ext W0 (W2.alloc (.cells #[] 5))) := EB.out.alloc _
                have K0 : Hid ((W2.alloc (.cells #[] 5)).heap[W2.heap.size]? = some (.cells #[] 5)) := heap_alloc_new _ _
                have S0 : Hid (W0.heap.size ≤ W2.heap.size) := EB.out.size
                have K99 : Hid ((W2.alloc (.cells #[] 5)).heap[n9]? = some (.cells #[.int .u8 y] 5)) := by show _ = _; rw [heap_alloc_old _ _ (lt_of_block K9.out)]; exact K9.out
                clear K9
                have K9 := K99
                clear K99
                clear EB
                generalize W2.heap.size = n0 at *
                generalize W2.alloc (.cells #[] 5) = W3 at *
                refine wpMix_only 6 (by kernel_rfl) EC.out ?_
                obtain ⟨v6, W4, hr6, ho6, he6⟩ := run_append_new 22 W0 W3 n0 K0.out S0.out EC.out ⟨za, zc, zl⟩ (HZB.out.bits.ext (E00.out.trans EC.out)) (by have := HZS.out; simp only at this ⊢; omega) HZF.out
                rw [← HQ.out] at hr6
                refine mOp_value (v := v6) (w' := W4) (by rfl) (by rfl) ?_ ?_
                · exact exec_append _ _ (.tmp 38) (.tmp 43) 22 (by rfl) (.slice (some ⟨n0, 0, none⟩) 0 0) (.slice za q zc) _ _ W4 (by simp [Act.eval, Act.put]) (by simp [Act.eval, Act.put]) hr6
                have ED : Hid (Ext W0 W4) := EC.out.trans he6
                have O6 : Hid (OwnB W0 W4 v6 zl) := ho6
                have K99 : Hid (W4.heap[n9]? = some (.cells #[.int .u8 y] 5)) := by show _ = _; rw [he6.block _ (lt_of_block K9.out)]; exact K9.out
                clear K9
                have K9 := K99
                clear K99
                clear hr6 ho6 he6 EC K0 S0
                refine wpMix_only 10 (by kernel_rfl) ED.out ?_
                obtain ⟨vf, Wf, hrf, hof, hgf⟩ := run_append_one 22 W0 W4 v6 zl O6.out n9 y K9.out (by have := HZS.out; simp only at this; omega)
                refine mOp_value (v := vf) (w' := Wf) (by rfl) (by rfl) ?_ ?_
                · exact exec_append _ _ (.tmp 44) (.tmp 47) 22 (by rfl) v6 (.slice (some ⟨n9, 0, none⟩) 1 1) _ _ Wf (by simp [Act.eval, Act.put]) (by simp [Act.eval, Act.put]) hrf
                have OF : Hid (OwnB W0 Wf vf (zl ++ [y])) := hof
                clear hrf hof hgf O6 K9 ED
                refine wpMix_lastv (v := vf) (w' := Wf) 11 (by kernel_rfl) (by kernel_rfl) (by rfl) (by rfl) OF.out.1 ?_ OF.out.1 ?_
                · go_simp
                simp only [Act.put, List.setIfInBounds_toArray, List.set_cons_zero, List.set_cons_succ]
                go_wp2_with fail
                go_meet
                case rel => exact OF.out
            case rest =>
              obtain ⟨u, rfl, hul, hub, hua⟩ := hcut.out.lb
              have EC : Hid (Ext wr wc) := E0.out.trans hcut.out.1
              have AC : Hid (JM g w wc (.slice (some ⟨G, 0, none⟩) (i + 1) kc) u7 i X) := A.out.ext EC.out
              have UA : Hid (u.v.ownBlock = none ∨ u.v.ownBlock ≠ u7.ownBlock) := by
                rcases hub.2 with ⟨hv, _⟩ | ⟨b1, cap, cur, hv, _, hh, _⟩
                · rw [hv]; exact .inl rfl
                · have hb1 : W0.heap.size ≤ b1 := hua ⟨b1, 0, none⟩ (by injection hv)
                  refine .inr (fun e => ?_)
                  rw [hv] at e
                  have h5 := (A.out.out.2.lt b1 e.symm).2
                  have h6 := E0.out.size
                  omega
              have UL : Hid (u.l = zl ++ [y]) := hul
              have UB : Hid (LB wc u) := hub
              clear hcut hul hub hua c0 c1 cG E0 hG e1 e2 HZB HZF HQ A
              have hXb : Hid (X.length ≤ 10000) := by show _ ≤ _; rw [HXL.out]; omega
              have O2 : Hid (∀ w2, (wc.alloc (.cells #[u.v] 22)).grownBy w2 (Value.slice (some ⟨G, 0, none⟩) (i + 1) kc).ownBlock → OwnB w w2 u7 (joined (g.take i))) := fun w2 hg2 => by
                have h5 := AC.out.out.ext ((Ext.refl wc).alloc (.cells #[u.v] 22))
                have h6 := AC.out.lw.mono ((Ext.refl wc).alloc (.cells #[u.v] 22))
                exact ⟨Below.grown h5.1 hg2 h5.1.size (fun k hk => (h6.own.lt k hk).1), World.ownsRow.kept h5.2 hg2 (own_apart h5.2 h6.own (by decide))⟩
              have FIN : Hid (∀ ka' km' kc' w2 v3 w3, LW w w2 (.slice ka' km' kc') (X ++ [u]) → (wc.alloc (.cells #[u.v] 22)).grownBy w2 (Value.slice (some ⟨G, 0, none⟩) (i + 1) kc).ownBlock → OwnB w w3 v3 (joined (g.take i) ++ u.l) → w2.grownBy w3 u7.ownBlock → (v3.ownBlock = u7.ownBlock ∨ ∃ k, v3.ownBlock = some k ∧ w2.heap.size ≤ k) → JM g w w3 (.slice ka' km' kc') v3 (i + 1) (X ++ [u])) := fun ka' km' kc' w2 v3 w3 hl2 hg2 ho3 hg3 hb3 => by
                obtain ⟨hj, hz⟩ := HZZ.out
                exact AC.out.next UB.out (by rw [HN.out]; exact hlt) HPH.out hj (by rw [UL.out, hz]) UA.out hl2 hg2 ho3 hg3 hb3 (O2.out w2 hg2)
              have ULL : Hid (0 < u.l.length) := by show _ < _; rw [UL.out]; simp
              have UBL : Hid ((joined (g.take i)).length + u.l.length ≤ 100000) := by
                show _ ≤ _
                have h5 := HOS.out
                have h6 := HZS.out
                simp only at h6
                rw [UL.out, List.length_append, List.length_singleton]
                omega
              have LWC : Hid (LW w wc (.slice (some ⟨G, 0, none⟩) (i + 1) kc) X) := AC.out.lw
              clear HOS HZS HZZ HPH AC UA UL
              go_wp2_with (first
                | (at_builtin; refine wpList_appendOut rfl _ _ rfl w _ u7 (by rfl) (joined (g.take i)) HO2.out u (by rfl) HU2.out ULL.out UBL.out ?_; intro v3 w3 ho3 hg3 hb3; have HF : Hid (JM g w w3 (.slice ka' km' kc') v3 (i + 1) (X ++ [u])) := FIN.out ka' km' kc' w2 v3 w3 HL2.out HG2.out ho3 hg3 hb3; clear ho3 hg3 hb3 FIN HL2 HG2 HO2 HU2)
                | (at_builtin; refine wpList_appendLW rfl _ _ rfl w wc (.slice (some ⟨G, 0, none⟩) (i + 1) kc) (by rfl) X LWC.out u _ rfl _ (by rfl) rfl UB.out hXb.out ?_; intro ka' km' kc' w2 hkm hl2 hg2; have HL2 : Hid (LW w w2 (.slice ka' km' kc') (X ++ [u])) := hl2; have HG2 : Hid ((wc.alloc (.cells #[u.v] 22)).grownBy w2 (Value.slice (some ⟨G, 0, none⟩) (i + 1) kc).ownBlock) := hg2; have HO2 : Hid (OwnB w w2 u7 (joined (g.take i))) := O2.out w2 hg2; have HU2 : Hid (Bits w2 u) := (hl2.ok u (by simp)).bits; have HKM : Hid (km' = i + 1 + 1) := (by show _ = _; rw [hkm, HXL.out]); clear hkm hl2 hg2 LWC O2))
              go_roundg (k - (i + 1))
              case measure => omega
              case rel => exact ⟨i + 1, km', kc', ka', X ++ [u], by omega, by omega, HKM.out, by go_num, rfl, HF.out⟩
          · have hik : i = k := by omega
            subst hik
            have OU : Hid (OwnB w wr u7 (joined g)) := by
              have := A.out.out
              rw [List.take_of_length_le (by rw [HN.out]; omega)] at this
              exact this
            have hq : (joined g).length ≤ 4160 := joined_short (by rw [HN.out]; omega)
            obtain ⟨y, hy, hyl, hyb⟩ := OU.out.bits
            have E3 : Hid (Ext w wr) := OU.out.1
            have HJ3 : Hid (64 < (joined g).length → jer g = 1 ∧ jtx g = []) := HJ1.out HV.out
            have HJ4 : Hid (¬ 64 < (joined g).length → jer g = 0 ∧ jtx g = joined g) := HJ2.out HV.out
            have HY : Hid (Bits wr y ∧ y.l = joined g) := ⟨hyb, hyl⟩
            have hyn : y.l.length = (joined g).length := by rw [hyl]
            subst hy
            clear A OU hyl hyb HJ1 HJ2 HV H4 hXl
            obtain ⟨ya, yc, yl⟩ := y
            simp only [Wd.v] at *
            rw [hyn]
            by_cases hl : 64 < (joined g).length
            · have J1 : Hid (jer g = 1 ∧ jtx g = []) := HJ3.out hl
              clear HJ3 HJ4 HY hyn
              generalize (joined g).length = q at *
              have hlz : (q : Int) > 64 := by omega
              go_wp2
              go_ret2
              obtain ⟨j1, j2⟩ := J1.out
              rw [j1, j2]
              exact ⟨E3.out, ⟨none, 0, []⟩, bits_none _, rfl, rfl⟩
            · have J2 : Hid (jer g = 0 ∧ jtx g = joined g) := HJ4.out hl
              have HZ : Hid (∃ z : Wd, Bits wr z ∧ z.l = joined g ∧ Value.slice ya (joined g).length yc = z.v) := ⟨⟨ya, yc, yl⟩, HY.out.1, HY.out.2, by simp only [Wd.v]; rw [hyn]⟩
              clear HJ3 HJ4 HY hyn
              generalize joined g = J at *
              generalize J.length = q at *
              have hlz : ¬ ((q : Int) > 64) := by omega
              go_wp2
              go_ret2
              obtain ⟨z, z1, z2, z3⟩ := HZ.out
              obtain ⟨j1, j2⟩ := J2.out
              rw [j1, j2]
              exact ⟨E3.out, z, z1, z2, by rw [← z3]; rfl⟩

end Go.Proofs.Ytjgheojfdkfmkaa
