/-
  For any weights, two at least, they cost what the two least ones together do, and what all cost with these as one: HuffMerges returns true for every list of weights, and changes nothing.
-/
import Derived.Test.YtebghhpjpmekkaaOpn
import Derived.Test.YtebghhpjpmekkaaMrg
namespace Go.Proofs.Ytebghhpjpmekkaa
open Go.ChangeShapes Go.WideShapes Go.ChangeAt Go.RowKit Go.Deep
set_option linter.unusedVariables false

set_option maxHeartbeats 4000000 in
theorem huffMerges_walk (x : Nm) (w : World) (hx : Nums w x) : Calls Try.prog 7 #[x.v] w fun e w' => e = .returned (.bool true) ∧ Ext w w' := by
  have HWD : Hid (∀ W, Ext w W → Calls Try.prog 15 #[x.v] W fun e w' => e = .returned (.bool (werl x.z == 0)) ∧ w' = W) := fun W e => weighed_any x W (hx.ext e)
  by_cases hok : werl x.z = 0
  · have HC := costG_any x w hx hok
    obtain ⟨h8, ws0, hzw, hwl⟩ := werl_nat hok
    have HX : Hid (Nums w x) := hx
    rw [hok] at HWD
    obtain ⟨a, c, z⟩ := x
    simp only [Nm.v] at *
    have hzl : z = lz ws0 := hzw
    obtain ⟨n, hn⟩ : ∃ n, z.length = n := ⟨_, rfl⟩
    have hn0 : ws0.length = n := by rw [← hn, hzl, lz_len]
    have HN0 : Hid (ws0.length = n) := hn0
    have HWL : Hid (∀ x ∈ ws0, x ≤ 1048576) := hwl
    have HZ : Hid (z = lz ws0) := hzl
    have HN : Hid (z.length = n) := hn
    rw [hn] at HC HWD h8 ⊢
    clear hx hok hzw hzl hn hn0 hwl
    go_enter Try.func7, Try.ntmps7
    go_wp2_with fail
    refine HC.mono ?_
    rintro e w1 ⟨l1, rfl, hE1, hB1⟩
    have HB1 : Hid (Best (wof z) n l1) := hB1
    have E1 : Hid (Ext w w1) := hE1
    have NX : Hid (Nums w1 ⟨a, c, z⟩) := HX.out.ext hE1
    have FEW : Hid (n < 2 → tc (wof z) (pr n l1) = 0) := fun h => best_few hB1 h
    obtain ⟨C, hC⟩ : ∃ C, tc (wof z) (pr n l1) = C := ⟨_, rfl⟩
    rw [hC] at FEW ⊢
    have HC' : Hid (tc (wof z) (pr n l1) = C) := hC
    clear hC hB1 hE1 HC HX
    go_wp2_with fail
    refine (HWD.out w1 E1.out).mono ?_
    rintro e w2 ⟨rfl, rfl⟩
    clear HWD
    by_cases h2 : n < 2
    · have h2z : (n : Int) < 2 := by omega
      obtain rfl : C = 0 := FEW.out h2
      go_wp2
      go_ret
      exact ⟨ret_bool (by simp), E1.out⟩
    · have h2z : ¬ (n : Int) < 2 := by omega
      clear FEW
      have OW0 : Hid (OwnL w2 (w2.alloc (.cells #[] 2)) (.slice (some ⟨w2.heap.size, 0, none⟩) 0 0) []) := OwnL.start w2
      have NX2 : Hid (Nums (w2.alloc (.cells #[] 2)) ⟨a, c, z⟩) := NX.out.ext ((Ext.refl w2).alloc _)
      have ev : Hid ((Value.slice a n c) = Nm.v ⟨a, c, z⟩) := by show _ = _; rw [Nm.v, HN.out]
      have bd : Hid (([] : List Int).length + z.length ≤ 1000) := by show _ ≤ _; rw [HN.out]; simp; omega
      go_wp2_with (at_builtin; refine wpList_appendLs rfl _ _ rfl w2 _ _ (by rfl) [] OW0.out ⟨a, c, z⟩ (by exact ev.out) NX2.out bd.out ?_; intro v0 w3 B3)
      have OW1 : Hid (OwnL w w3 v0 (lz ws0)) := by
        have := B3.base E1.out
        rw [List.nil_append, HZ.out] at this
        exact this
      clear B3 OW0 NX2 ev bd NX
      go_loopg [5, 6, 7, 8, 9, 10] 2 (fun gg s5 s6 s7 _ _ _ wr => ∃ (t s : Nat) (v : Value), t ≤ 2 ∧ 2 - t ≤ gg ∧ s7 = .int .i64 t ∧ s6 = .int .i64 s ∧ v = s5 ∧ Aside (∃ us, OwnL w wr v (lz us) ∧ Mg ws0 t s us))
      case atStart => exact ⟨0, 0, _, by omega, by omega, rfl, rfl, rfl, ws0, OW1.out, .inl ⟨rfl, rfl, rfl⟩⟩
      case round =>
        obtain ⟨t, s, v, ht, hgg, rfl, rfl, rfl, A⟩ := hrel
        obtain ⟨us, hO, hMg⟩ := A.out
        have hul := hMg.len
        have hsb := hMg.small HWL.out
        have hub : ∀ i, us.getD i 0 ≤ 1048576 := fun i => by
          rw [List.getD_eq_getElem?_getD]
          cases hq : us[i]? with
          | none => simp
          | some q => exact HWL.out _ (hMg.mem _ (List.mem_of_getElem? hq))
        rw [HN0.out] at hul
        by_cases ht2 : t < 2
        · have ht2z : (t : Int) < 2 := by omega
          have hlen := lz_len us
          obtain ⟨g, cap, rfl, f1, f2, f3⟩ := hO.form (by omega)
          obtain ⟨m, hm⟩ : ∃ m, us.length = m := ⟨_, rfl⟩
          rw [hlen] at f1 f3 ⊢
          rw [hm] at f1 f3 hul ⊢
          have HM : Hid (us.length = m) := hm
          have F3 : Hid (∀ i, i < m → wr.cell? ⟨g, i, none⟩ = some (.int .i64 ((us.getD i 0 : Nat) : Int))) := fun i hi => by rw [f3 i hi, lz_z]
          have MG : Hid (Mg ws0 t s us) := hMg
          have HUB : Hid (∀ i, us.getD i 0 ≤ 1048576) := hub
          have EW : Hid (Ext w wr) := hO.1
          have hm1 : 1 ≤ m := by omega
          clear A hO hMg hub hlen f3 hm
          obtain ⟨wb, hwb⟩ : ∃ wb, wb = wr := ⟨_, rfl⟩
          go_wp2
          go_loopg [8, 9, 10, 41] m (fun gg s8 _ _ s41 wi => wi = wr ∧ ∃ i k : Nat, i ≤ m ∧ k < m ∧ m - i ≤ gg ∧ s41 = .int .i64 i ∧ s8 = .int .i64 k ∧ Aside (∀ j, j < i → us.getD k 0 ≤ us.getD j 0))
          case atStart => exact ⟨rfl, 0, 0, by omega, by omega, by omega, rfl, rfl, fun j hj => absurd hj (Nat.not_lt_zero _)⟩
          case round =>
            obtain ⟨rfl, i, k, hi, hk, hgi, rfl, rfl, AM⟩ := hrel
            have hkz : (k : Int) < (m : Int) := by omega
            have e2 := F3.out k hk
            by_cases him : i < m
            · have himz : (i : Int) < (m : Int) := by omega
              have e1 := F3.out i him
              have less : Hid (us.getD i 0 < us.getD k 0 → ∀ j, j < i + 1 → us.getD i 0 ≤ us.getD j 0) := fun h j hj => by
                rcases Nat.lt_succ_iff_lt_or_eq.1 hj with h' | rfl
                · have := AM.out j h'; omega
                · exact Nat.le_refl _
              have more : Hid (¬ us.getD i 0 < us.getD k 0 → ∀ j, j < i + 1 → us.getD k 0 ≤ us.getD j 0) := fun h j hj => by
                rcases Nat.lt_succ_iff_lt_or_eq.1 hj with h' | rfl
                · exact AM.out j h'
                · omega
              clear AM
              obtain ⟨p, hp⟩ : ∃ p, us.getD i 0 = p := ⟨_, rfl⟩
              obtain ⟨q, hq⟩ : ∃ q, us.getD k 0 = q := ⟨_, rfl⟩
              have HP : Hid (us.getD i 0 = p) := hp
              have HQ : Hid (us.getD k 0 = q) := hq
              rw [hp] at e1
              rw [hq] at e2
              clear hp hq
              by_cases hpq : p < q
              · have hpqz : (p : Int) < (q : Int) := by omega
                have NM : Hid (∀ j, j < i + 1 → us.getD i 0 ≤ us.getD j 0) := less.out (by rw [HP.out, HQ.out]; exact hpq)
                clear less more
                go_wp2
                go_roundg (m - (i + 1))
                case measure => omega
                case rel => exact ⟨rfl, i + 1, i, by omega, him, by omega, by go_num, rfl, NM.out⟩
              · have hpqz : ¬ (p : Int) < (q : Int) := by omega
                have NM : Hid (∀ j, j < i + 1 → us.getD k 0 ≤ us.getD j 0) := more.out (by rw [HP.out, HQ.out]; exact hpq)
                clear less more
                go_wp2
                go_roundg (m - (i + 1))
                case measure => omega
                case rel => exact ⟨rfl, i + 1, k, by omega, hk, by omega, by go_num, rfl, NM.out⟩
            · have NG : Hid (Mg ws0 (t + 1) (s + us.getD k 0) (us.take k ++ us.drop (k + 1))) := MG.out.next ht2 k (by rw [HM.out]; exact hk) (fun j hj => AM.out j (by rw [HM.out] at hj; omega))
              have hqb := HUB.out k
              have NT : Hid (Nums wr ⟨some ⟨g, 0, none⟩, cap, (lz us).take k⟩) := nums_take (by rw [lz_len, HM.out]; exact f1) f2 (fun i hi => by rw [lz_len, HM.out] at hi; rw [F3.out i hi, lz_z]) k (by rw [lz_len, HM.out]; omega)
              have ND : Hid (Nums wr ⟨if cap = k + 1 then some ⟨g, 0, none⟩ else some ⟨g, k + 1, none⟩, cap - (k + 1), (lz us).drop (k + 1)⟩) := nums_drop (by rw [lz_len, HM.out]; exact f1) f2 (fun i hi => by rw [lz_len, HM.out] at hi; rw [F3.out i hi, lz_z]) (k + 1) (by rw [lz_len, HM.out]; omega)
              have LT : Hid (((lz us).take k).length = k) := by show _ = _; rw [List.length_take, lz_len, HM.out]; omega
              have LD : Hid (((lz us).drop (k + 1)).length = m - (k + 1)) := by show _ = _; rw [List.length_drop, lz_len, HM.out]
              obtain ⟨q, hq⟩ : ∃ q, us.getD k 0 = q := ⟨_, rfl⟩
              rw [hq] at e2 NG hqb
              clear AM hq
              obtain ⟨ι, _, fm, hfm, hgo⟩ := ext_fam wr
              have HGO : Hid (∀ W, Ext wr W → ∃ i, W = fm i) := hgo
              clear hfm hgo
              have hk1 : (k : Int) + 1 ≤ (m : Int) := by omega
              have hkc : (k : Int) ≤ (cap : Int) := by omega
              have hkc1 : (k : Int) + 1 ≤ (cap : Int) := by omega
              have hmc : (m : Int) ≤ (cap : Int) := by omega
              have hk0 : (0 : Int) ≤ (k : Int) := by omega
              go_upto_region 19 with fail
              refine wp_region_mix (fun W => ∃ i, W = fm i) 11 (by rfl) (by kernel_rfl) ?_
              refine wpMix_take (v := .slice (some ⟨g, 0, none⟩) m cap) 1 (by rfl) (by kernel_rfl) ⟨by rfl, ?_⟩ ?_
              · rintro _ ⟨j, rfl⟩
                go_simp
              refine wpMix_take (v := .int .i64 (k : Int)) 2 (by rfl) (by kernel_rfl) ⟨by rfl, ?_⟩ ?_
              · rintro _ ⟨j, rfl⟩
                go_simp
              refine wpMix_take (v := .slice (some ⟨g, 0, none⟩) k cap) 3 (by rfl) (by kernel_rfl) ⟨by rfl, ?_⟩ ?_
              · rintro _ ⟨j, rfl⟩
                go_simp
              refine wpMix_take (v := .slice (some ⟨g, 0, none⟩) m cap) 5 (by rfl) (by kernel_rfl) ⟨by rfl, ?_⟩ ?_
              · rintro _ ⟨j, rfl⟩
                go_simp
              refine wpMix_take (v := .int .i64 (k : Int)) 6 (by rfl) (by kernel_rfl) ⟨by rfl, ?_⟩ ?_
              · rintro _ ⟨j, rfl⟩
                go_simp
              refine wpMix_take (v := .int .i64 ((k : Int) + 1)) 7 (by rfl) (by kernel_rfl) ⟨by rfl, ?_⟩ ?_
              · rintro _ ⟨j, rfl⟩
                go_simp
                rw [IntKind.wrap_i64]
                omega
              obtain ⟨da, hda⟩ : ∃ da : Option Addr, da = if cap = k + 1 then some ⟨g, 0, none⟩ else some ⟨g, k + 1, none⟩ := ⟨_, rfl⟩
              rw [← hda] at ND
              refine wpMix_take (v := .slice da (m - (k + 1)) (cap - (k + 1))) 8 (by rfl) (by kernel_rfl) ⟨by rfl, ?_⟩ ?_
              · rintro _ ⟨j, rfl⟩
                by_cases hc : cap = k + 1
                · rw [if_pos hc] at hda
                  subst hda
                  subst hc
                  obtain rfl : m = k + 1 := by omega
                  go_simp
                  intro h; omega
                · rw [if_neg hc] at hda
                  subst hda
                  go_simp
                  intro h; omega
              clear hda
              have ED : Hid (Ext wr wr.drew) := ext_drew wr
              generalize wr.drew = W1 at *
              refine wpMix_only 0 (by kernel_rfl) (HGO.out _ ED.out) ?_
              refine mOp_value (v := .slice (some ⟨W1.heap.size, 0, none⟩) 0 0) (w' := W1.alloc (.cells #[] 2)) (by rfl) (by rfl) ?_ ?_
              · go_simp
              have O1 : Hid (OwnL wr (W1.alloc (.cells #[] 2)) (.slice (some ⟨W1.heap.size, 0, none⟩) 0 0) []) := (OwnL.start W1).base ED.out
              obtain ⟨B0, hB0⟩ : ∃ B0, W1.heap.size = B0 := ⟨_, rfl⟩
              rw [hB0] at O1 ⊢
              clear hB0
              generalize W1.alloc (.cells #[] 2) = W2 at *
              obtain ⟨v3, W3, r3, o3⟩ := append_ls wr W2 _ [] O1.out ⟨some ⟨g, 0, none⟩, cap, (lz us).take k⟩ (NT.out.ext O1.out.1) (by rw [LT.out]; simp; omega) 22
              simp only [Nm.v, List.nil_append] at r3 o3
              rw [LT.out] at r3
              obtain ⟨v4, W4, r4, o4⟩ := append_ls wr W3 v3 _ o3 ⟨da, cap - (k + 1), (lz us).drop (k + 1)⟩ (ND.out.ext o3.1) (by rw [LT.out, LD.out]; omega) 22
              simp only [Nm.v] at r4 o4
              rw [LD.out] at r4
              have R3 : Hid ((Builtin.append_ #[22, 22] 22 #[.slice (some ⟨B0, 0, none⟩) 0 0, .slice (some ⟨g, 0, none⟩) k cap]).run Try.prog W2 = .ok v3 W3) := r3
              have R4 : Hid ((Builtin.append_ #[22, 22] 22 #[v3, .slice da (m - (k + 1)) (cap - (k + 1))]).run Try.prog W3 = .ok v4 W4) := r4
              have E3 : Hid (Ext wr W3) := o3.1
              have E4 : Hid (Ext wr W4) := o4.1
              have OF : Hid (OwnL w W4 v4 (lz (us.take k ++ us.drop (k + 1)))) := by
                have := o4.base EW.out
                rw [← lz_take, ← lz_drop, ← lz_append] at this
                exact this
              clear r3 r4 o3 o4
              refine wpMix_only 4 (by kernel_rfl) (HGO.out _ O1.out.1) ?_
              refine mOp_value (v := v3) (w' := W3) (by rfl) (by rfl) (exec_append _ _ (.tmp 60) (.tmp 63) 22 (by rfl) (.slice (some ⟨B0, 0, none⟩) 0 0) (.slice (some ⟨g, 0, none⟩) k cap) v3 W2 W3 (by simp [Act.eval, Act.put]) (by simp [Act.eval, Act.put]) R3.out) ?_
              refine wpMix_only 9 (by kernel_rfl) (HGO.out _ E3.out) ?_
              refine mOp_value (v := v4) (w' := W4) (by rfl) (by rfl) (exec_append _ _ (.tmp 64) (.tmp 68) 22 (by rfl) v3 (.slice da (m - (k + 1)) (cap - (k + 1))) v4 W3 W4 (by simp [Act.eval, Act.put]) (by simp [Act.eval, Act.put]) R4.out) ?_
              refine wpMix_lastv (v := v4) (w' := W4) 10 (by kernel_rfl) (by kernel_rfl) (by rfl) (by rfl) (HGO.out _ E4.out) ?_ (HGO.out _ E4.out) ?_
              · go_simp
              simp only [Act.put, List.setIfInBounds_toArray, List.set_cons_zero, List.set_cons_succ]
              clear R3 R4 NT ND
              go_wp2
              go_roundg (2 - (t + 1))
              case measure => omega
              case rel => exact ⟨t + 1, s + q, _, by omega, by omega, by go_num, by go_num, rfl, _, OF.out, NG.out⟩
        · have ht' : t = 2 := by omega
          subst ht'
          by_cases hs : 1048576 < s
          · have hsz : (1048576 : Int) < (s : Int) := by omega
            have EF : Hid (Ext w wr) := hO.1
            clear A hO hMg hub
            go_wp2
            go_ret
            exact ⟨rfl, EF.out⟩
          · have hsz : ¬ (1048576 : Int) < (s : Int) := by omega
            have hw8 : werl (lz (us ++ [s])) = 0 := werl_lz (by simp; omega) (fun y hy => by
              rcases List.mem_append.1 hy with h | h
              · exact HWL.out _ (hMg.mem _ h)
              · simp at h; omega)
            have MC : Hid (∀ l', Best (wof (lz (us ++ [s]))) (us ++ [s]).length l' → C = s + tc (wof (lz (us ++ [s]))) (pr (us ++ [s]).length l')) := by
              intro l' hl'
              rcases hMg with ⟨h, _⟩ | ⟨h, _⟩ | ⟨_, p, q, g1, g2, g3, g4⟩
              · cases h
              · cases h
              · subst g4
                have hb1 := HB1.out
                have hc1 := HC'.out
                rw [HZ.out, ← HN0.out] at hb1 hc1
                rw [← hc1]
                exact merge_cost (by rw [HN0.out]; exact h8) g1 g2 g3 hb1 hl'
            have O5 : Hid (OwnL w (wr.alloc (.cells #[.int .i64 (s : Int)] 2)) v (lz us)) := hO.ext ((Ext.refl wr).alloc _)
            have N5 : Hid (Nums (wr.alloc (.cells #[.int .i64 (s : Int)] 2)) ⟨some ⟨wr.heap.size, 0, none⟩, 1, lz [s]⟩) := by
              refine ⟨by simp [lz], by simp [maxLen], by simp, wr.heap.size, 0, fun _ => rfl, fun i hi => ?_⟩
              have hi0 : i = 0 := by simp [lz] at hi; exact hi
              subst hi0
              rw [cell_of_row _ _ 0 #[.int .i64 (s : Int)] 2 (0, 0) (heap_alloc_new wr _)]
              simp [lz]
            have bd : Hid ((lz us).length + (lz [s]).length ≤ 1000) := by show _ ≤ _; rw [lz_len, lz_len]; simp; omega
            have CB : Hid (us.length + 1 ≤ 8) := by show _ ≤ _; omega
            clear A hO hMg hub
            go_wp2_with (at_builtin; refine wpList_appendLs rfl _ _ rfl w _ v (by rfl) (lz us) O5.out ⟨some ⟨wr.heap.size, 0, none⟩, 1, lz [s]⟩ (by rfl) N5.out bd.out ?_; intro v5 w5 B5)
            rw [← lz_append] at B5
            obtain ⟨y, rfl, hyz, hyn⟩ := B5.nums
            have E5 : Hid (Ext w w5) := B5.1
            have CG := costG_any y w5 hyn (by rw [hyz]; exact hw8)
            rw [hyz, lz_len] at CG
            clear B5 hyz hyn O5 N5 bd
            obtain ⟨ya, yc, yz⟩ := y
            simp only [Nm.v] at CG ⊢
            generalize yz.length = ym at CG ⊢
            refine CG.mono ?_
            rintro e w6 ⟨l', rfl, hE6, hB6⟩
            have hCE := MC.out l' hB6
            obtain ⟨D, hD⟩ : ∃ D, tc (wof (lz (us ++ [s]))) (pr (us ++ [s]).length l') = D := ⟨_, rfl⟩
            have hDb : D ≤ 67108864 := by
              have h1 := cs_le (wof (lz (us ++ [s]))) l' (wof_le hw8) (hB6.le (by have := CB.out; simp; omega)) (us ++ [s]).length
              rw [← tc_pr, hD] at h1
              have := CB.out
              simp only [List.length_append, List.length_cons, List.length_nil] at h1
              omega
            rw [hD] at hCE ⊢
            subst hCE
            have E6 : Hid (Ext w w6) := E5.out.trans hE6
            clear CG hE6 hB6 hD MC
            go_wp2
            go_ret
            exact ⟨ret_bool (by simp), E6.out⟩
  · have HC := costB_any x w hx hok
    have hr : (werl x.z == 0) = false := by simpa using hok
    clear hx hok
    obtain ⟨a, c, z⟩ := x
    simp only [Nm.v] at *
    generalize werl z = r at *
    generalize z.length = n at *
    go_enter Try.func7, Try.ntmps7
    go_wp2_with fail
    refine HC.mono ?_
    rintro e w1 ⟨rfl, hb⟩
    go_wp2_with fail
    refine (HWD.out w1 hb).mono ?_
    rintro e w2 ⟨rfl, rfl⟩
    go_wp2
    go_ret
    exact ⟨ret_bool (by simp [bne, hr]), hb⟩

set_option maxRecDepth 100000 in
theorem huffMerges_lifted (os : Os) (started : os.Started) (H : Type) (enc : TypeId × Value → H) :
    ReturnsInHanded {} Try.checked os 7 .any (Rows.huffMergesSpec.pre6 enc Try.prog Try.f7 Rows.huffMergesRow.domain false) (Rows.huffMergesSpec.post enc Try.prog Try.f7 false true false false) := by
  refine returnsInHanded_of_change (C := Try.checked) own started (by kernel_rfl) Try.func7
    (ChangeSpec.witness6 (enc := enc) (C := Try.checked) false ⟨#[], #[.slice none 0 0], []⟩ 8 (by kernel_rfl) (by kernel_rfl) (by kernel_rfl) (by kernel_rfl)) ?_
  intro W base args ds gs before hval0 hW _ _
  have hval : ∀ (j : Nat) t v, Try.f7.params[j]? = some t → args[j]? = some v → Value.okWide Try.prog W .any base t v := hval0
  have hW' := hW
  obtain ⟨p, q, hA0, hV, rfl, hfz, hnd⟩ := hW
  have hA : DataW.TrodAll enc Try.prog W 0 (fun _ => true) true Try.f7.params.toList args.toList ds p := hA0
  rw [Try.params7] at hA hval
  obtain ⟨v0, vs0, d0, ds0, p0, q0, hargs, rfl, rfl, h0, r0⟩ := trodAll_cons hA
  obtain ⟨rfl, rfl, rfl⟩ := trodAll_nil r0
  obtain rfl : args = #[v0] := by cases args; simp_all
  obtain ⟨rfl, rfl⟩ := trodVars_none hV
  have lt0 : ∀ x ∈ p0, x.block < W.heap.size := by obtain ⟨m, hm⟩ := h0; exact DataW.trod_lt m _ _ _ hm
  obtain ⟨x0, rfl, w0⟩ := open_wts (hval 0 22 v0 rfl rfl) h0
  clear hA0 hval0
  refine (huffMerges_walk x0 W w0).mono fun e W' ⟨he, bel⟩ => ?_
  subst he
  exact ⟨_, rfl, _, _, _, [], _, [], hW', trodAll_mk1 (shut_bool Try.underlying4 _), (trodAll_cons_mk (Below.trod laidOut (by kernel_rfl) (of_decide_eq_true (by kernel_rfl)) h0 bel lt0) trodAll_mk0), rfl, bel.frame _, fun h => by cases h⟩

theorem huffMerges_holds : Rows.HuffMergesSaid :=
  OpenClaim.holds_of_wide 7 Try.f7 rfl rfl rfl rfl rfl rfl rfl ⟨rfl, rfl, rfl, rfl, rfl⟩ rfl rfl rfl rfl rfl (by kernel_rfl) Try.func7 (by kernel_rfl)
    (of_decide_eq_true (by kernel_rfl)) (by unfold Func.isWrapper; rw [if_neg (of_decide_eq_false (by kernel_rfl))]; exact ⟨rfl, rfl⟩)
    (fun os started H enc _ => huffMerges_lifted os started H enc)

#print axioms huffMerges_holds

end Go.Proofs.Ytebghhpjpmekkaa
