/-
  quipuref.Phrases: the phrases of a text, as the document tells them.
-/
import Derived.Test.YtjgheojfdkfmkaaLz3
import Derived.Test.YtjgheojfdkfmkaaLst
import Derived.Test.YtjgheojfdkfmkaaMix
import Derived.Deep.DeepCutAuto
namespace Go.Proofs.Ytjgheojfdkfmkaa
open Go.RowKit

/-- What the reference has in memory: what is left, what is known, the phrases. -/
def PM (t : List Int) (w wr : World) (y : Wd) (kv ov : Value) : Prop :=
  ∃ X g, OwnW w w wr kv X ∧ OwnP w wr ov g ∧ Bits w y ∧ RI t g (X.map (·.l)) y.l

set_option maxHeartbeats 4000000 in
theorem phrases_any (x : Wd) (w : World) (hx : Bits w x) (h : x.l.length ≤ 64) :
    Calls Try.prog 9 #[x.v] w fun e w' => ∃ v, e = .returned v ∧ OwnP w w' v (phr x.l) := by
  obtain ⟨a, c, t⟩ := x
  have HX : Hid (Bits w ⟨a, c, t⟩) := hx
  simp only [Wd.v] at *
  obtain ⟨n, hn⟩ : ∃ n, t.length = n := ⟨_, rfl⟩
  have HN : Hid (t.length = n) := hn
  rw [hn] at h ⊢
  clear hx hn
  have M1 : Hid (PM t w (w.alloc (.cells #[.slice none 0 0] 22)) ⟨a, c, t⟩ (.slice (some ⟨w.heap.size, 0, none⟩) 1 1) (.slice none 0 0)) :=
    ⟨_, [], OwnW.one w w, OwnP.nil ((Ext.refl w).alloc _), HX.out, RI.start t⟩
  go_enter Try.func9, Try.ntmps9
  go_wp2_with fail
  go_loopg [0, 3, 4, 5] n (fun gg sv kv ov _ wr => ∃ (ya ka va : Option Addr) (yn yc km kc m vc : Nat), sv = .slice ya yn yc ∧ kv = .slice ka km kc ∧ ov = .slice va m vc ∧ yn ≤ gg ∧ yn ≤ 64 ∧ km ≤ 65 ∧ m ≤ 64 ∧
    Aside (∃ yl : List Int, yl.length = yn ∧ PM t w wr ⟨ya, yc, yl⟩ (.slice ka km kc) (.slice va m vc)))
  case atStart => exact ⟨a, some ⟨w.heap.size, 0, none⟩, none, n, c, 1, 1, 0, 0, rfl, rfl, rfl, by omega, h, by omega, by omega, ⟨t, HN.out, M1.out⟩⟩
  case round =>
    obtain ⟨ya, ka, va, yn, yc, km, kc, m, vc, rfl, rfl, rfl, hgg, h64, hk65, hm64, A⟩ := hrel
    clear M1 HX
    obtain ⟨yl, hyl, X, g, hX, hO, hY, hR⟩ := A.out
    by_cases h0 : yn = 0
    · subst h0
      have U : Hid (OwnP w wr (.slice va m vc) (phr t)) := by
        have : yl = [] := List.eq_nil_of_length_eq_zero hyl
        subst this
        rw [hR.done] at hO
        exact hO
      clear A hX hO hY hR hyl
      go_wp2
      go_ret
      exact ⟨_, rfl, U.out⟩
    · have h0n : 0 < yn := by omega
      clear h0
      have hY1 := hY
      obtain ⟨y1, y2, y0, b, o, y3, y4⟩ := hY1
      obtain rfl := y3 (by simp only; omega)
      have HY : Hid (Bits w ⟨some ⟨b, o, none⟩, yc, yl⟩) := hY
      have HX : Hid (OwnW w w wr (.slice ka km kc) X) := hX
      have HO : Hid (OwnP w wr (.slice va m vc) g) := hO
      have HR : Hid (RI t g (X.map (·.l)) yl) := hR
      have HYL : Hid (yl.length = yn) := hyl
      have hyc : yn ≤ yc := by simp only at y1; omega
      have hyc2 : yc ≤ maxLen := y2
      unfold maxLen at hyc2
      clear A hX hO hY hR y1 y2 y0 y3 y4 hyl
      obtain ⟨wo, rfl⟩ : ∃ wo, wo = wr := ⟨_, rfl⟩
      have PL : Hid (∀ W, Ext wo W → ∀ k, k ≤ yn → Calls Try.prog 13 #[.slice ka km kc, .slice (some ⟨b, o, none⟩) k yc] W fun e w' => e = .returned (.int .i64 (plc (X.map (·.l)) (yl.take k))) ∧ Qt W w') := fun W hW k hk => by
        have h1 := (HX.out.mono hW).wds (HX.out.ext.trans hW)
        have h2 := (HY.out.first (q := k) (by rw [HYL.out]; exact hk)).ext (HX.out.ext.trans hW)
        have := place_any ka kc X _ W h1 h2
        rw [HX.out.len] at this
        have e : (Wd.v ⟨some ⟨b, o, none⟩, yc, yl.take k⟩) = .slice (some ⟨b, o, none⟩) k yc := by
          simp only [Wd.v]
          rw [List.length_take, HYL.out, Nat.min_eq_left hk]
        rw [e] at this
        exact this
      go_wp2_with fail
      go_loopg [5] yn (fun gg s wi => ∃ k : Nat, 1 ≤ k ∧ k ≤ yn ∧ yn - k ≤ gg ∧ s = .int .i64 k ∧ Aside (Qt wo wi) ∧ Aside (∀ r, 1 ≤ r → r < k → yl.take r ∈ X.map (·.l)))
      case atStart => exact ⟨1, by omega, by omega, by omega, rfl, Qt.refl _, fun r h1 h2 => by omega⟩
      case round =>
        obtain ⟨k, hk1, hkn, hgi, rfl, QW, B⟩ := hrel
        go_upto_region 5 with fail
        go_cut [21] from 10 to 23 (fun s21 wx => s21 = .bool (decide (k < yn ∧ yl.take k ∈ X.map (·.l))) ∧ Aside (Qt wo wx))
        case first =>
          by_cases hlt : k < yn
          · have hltz : (k : Int) < (yn : Int) := by omega
            have hc := PL.out wr QW.out.ext k hkn
            by_cases hin : yl.take k ∈ X.map (·.l)
            · have hge := plc_geq hin
              generalize plc (X.map (·.l)) (yl.take k) = z at *
              clear PL
              go_wp2_with (go_at_call 13; refine hc.mono ?_; rintro e w1 ⟨rfl, hw1⟩)
              go_meet
              case rel => exact ⟨congrArg Value.bool (decide_eq_true ⟨hlt, hin⟩).symm, QW.out.trans hw1⟩
            · rw [plc_neg hin] at hc
              clear PL
              go_wp2_with (go_at_call 13; refine hc.mono ?_; rintro e w1 ⟨rfl, hw1⟩)
              go_meet
              case rel => exact ⟨congrArg Value.bool (decide_eq_false (fun h => hin h.2)).symm, QW.out.trans hw1⟩
          · have hltz : ¬ ((k : Int) < (yn : Int)) := by omega
            clear PL
            go_wp2_with fail
            go_meet
            case rel => exact ⟨congrArg Value.bool (decide_eq_false (fun h => hlt h.1)).symm, QW.out⟩
        case rest =>
          obtain ⟨rfl, QC⟩ := hcut
          by_cases hB : k < yn ∧ yl.take k ∈ X.map (·.l)
          · have hd := decide_eq_true hB
            have B' : Hid (∀ r, 1 ≤ r → r < k + 1 → yl.take r ∈ X.map (·.l)) := fun r h1 h2 => by
              rcases Nat.lt_succ_iff_lt_or_eq.1 h2 with h' | rfl
              · exact B.out r h1 h'
              · exact hB.2
            have hk2 := hB.1
            rw [hd]
            clear hd hB B PL
            go_wp2
            go_roundg (yn - (k + 1))
            case measure => omega
            case rel => exact ⟨k + 1, by omega, by omega, by omega, by go_num, QC.out, B'.out⟩
          · have hd := decide_eq_false hB
            rw [hd]
            obtain ⟨s, rfl⟩ : ∃ s, k = s + 1 := ⟨k - 1, by omega⟩
            have NX : Hid (RI t (g ++ [(plc (X.map (·.l)) (yl.take s), yl.getD s 0)]) (X.map (·.l) ++ [yl.take (s + 1)]) (yl.drop (s + 1))) :=
              HR.out.next (by rw [HYL.out]; exact hkn) (fun i h1 h2 => B.out i h1 (by omega)) (by
                by_cases h : s + 1 < yn
                · exact .inl (fun h' => hB ⟨h, h'⟩)
                · exact .inr (by rw [HYL.out]; omega))
            have CE : Hid (∀ W, Ext w W → W.cell? ⟨b, o + s, none⟩ = some (.int .u8 (yl.getD s 0))) := fun W hW => by
              obtain ⟨y1, y2, y0, b', o', y3, y4⟩ := HY.out
              have hp := y3 (by simp only; rw [HYL.out]; omega)
              injection hp with hp
              injection hp with hp1 hp2
              subst hp1 hp2
              exact hW.cell (y4 s (by simp only; rw [HYL.out]; omega))
            have EW : Hid (Ext w wc) := HX.out.ext.trans QC.out.ext
            have hpl := plc_le (K := X.map (·.l)) (t := yl.take s)
            have PLs : Hid (∀ W, Ext wo W → Calls Try.prog 13 #[.slice ka km kc, .slice (some ⟨b, o, none⟩) s yc] W fun e w' => e = .returned (.int .i64 (plc (X.map (·.l)) (yl.take s))) ∧ Qt W w') := fun W hW => PL.out W hW s (by omega)
            clear hd hB B PL hpl
            generalize plc (X.map (·.l)) (yl.take s) = z at *
            generalize yl.getD s 0 = y at *
            have hs1 : ((s + 1 : Nat) : Int) - 1 = (s : Int) := by omega
            have hsw : IntKind.i64.wrap (s : Int) = (s : Int) := by rw [IntKind.wrap_i64]; omega
            have hys : ¬ (yc < s) := by omega
            have hyn : ¬ (yn ≤ s) := by omega
            go_wp2_with fail
            refine wp_region_mix (fun W => Ext w W) 16 (by rfl) (by kernel_rfl) ?_
            refine wpMix_take (v := .slice va m vc) 0 (by rfl) (by kernel_rfl) ⟨by rfl, ?_⟩ ?_
            · rintro W -
              go_simp
            refine wpMix_take (v := .slice ka km kc) 1 (by rfl) (by kernel_rfl) ⟨by rfl, ?_⟩ ?_
            · rintro W -
              go_simp
            refine wpMix_take (v := .slice (some ⟨b, o, none⟩) yn yc) 2 (by rfl) (by kernel_rfl) ⟨by rfl, ?_⟩ ?_
            · rintro W -
              go_simp
            refine wpMix_take (v := .int .i64 ((s + 1 : Nat) : Int)) 3 (by rfl) (by kernel_rfl) ⟨by rfl, ?_⟩ ?_
            · rintro W -
              go_simp
            refine wpMix_take (v := .int .i64 (s : Int)) 4 (by rfl) (by kernel_rfl) ⟨by rfl, ?_⟩ ?_
            · rintro W -
              go_simp
            refine wpMix_take (v := .slice (some ⟨b, o, none⟩) s yc) 5 (by rfl) (by kernel_rfl) ⟨by rfl, ?_⟩ ?_
            · rintro W -
              go_simp
            refine wpMix_take (v := .slice (some ⟨b, o, none⟩) yn yc) 7 (by rfl) (by kernel_rfl) ⟨by rfl, ?_⟩ ?_
            · rintro W -
              go_simp
            refine wpMix_take (v := .int .i64 ((s + 1 : Nat) : Int)) 8 (by rfl) (by kernel_rfl) ⟨by rfl, ?_⟩ ?_
            · rintro W -
              go_simp
            refine wpMix_take (v := .int .i64 (s : Int)) 9 (by rfl) (by kernel_rfl) ⟨by rfl, ?_⟩ ?_
            · rintro W -
              go_simp
            refine wpMix_take (v := .pointer (some ⟨b, o + s, none⟩)) 10 (by rfl) (by kernel_rfl) ⟨by rfl, ?_⟩ ?_
            · rintro W -
              go_simp
            refine wpMix_take (v := .int .u8 y) 11 (by rfl) (by kernel_rfl) ⟨by rfl, ?_⟩ ?_
            · rintro W hW
              have ce := CE.out W hW
              go_simp
            have P1 := PLs.out wc.drew (QC.out.ext.trans (ext_drew _))
            have X1 : Hid (OwnW w w wc.drew (.slice ka km kc) X) := HX.out.mono (QC.out.ext.trans (ext_drew _))
            have O1 : Hid (OwnP w wc.drew (.slice va m vc) g) := HO.out.ext (QC.out.ext.trans (ext_drew _))
            clear HX HO PLs EW QC QW CE hs1 hsw hys hyn
            generalize wc.drew = W1 at *
            refine wpMix_only 6 (by kernel_rfl) X1.out.ext ?_
            refine mOp_call (f := 13) (args := #[.slice ka km kc, .slice (some ⟨b, o, none⟩) s yc]) (w' := W1) (by rfl) (by rfl) ?_ ?_
            · go_simp
            refine P1.mono ?_
            rintro e W2 ⟨rfl, hq2⟩
            refine ⟨_, rfl, ?_⟩
            have X2 : Hid (OwnW w w W2 (.slice ka km kc) X) := X1.out.mono hq2.ext
            have O2 : Hid (OwnP w W2 (.slice va m vc) g) := O1.out.ext hq2.ext
            clear P1 X1 O1 hq2
            refine wpMix_only 12 (by kernel_rfl) X2.out.ext ?_
            refine mOp_value (v := .agg #[.int .i64 z, .int .u8 y]) (w' := W2) (by rfl) (by rfl) ?_ ?_
            · go_simp
            refine wpMix_only 13 (by kernel_rfl) X2.out.ext ?_
            refine mOp_value (v := .slice (some ⟨W2.heap.size, 0, none⟩) 1 1) (w' := W2.alloc (.cells #[.int .i64 z, .int .u8 y] 35)) (by rfl) (by rfl) ?_ ?_
            · go_simp
            obtain ⟨va', vc', W3, hrun, hO3, hg3⟩ := run_appendPh 23 w W2 (.slice va m vc) g O2.out z y (by
              have := HR.out.few
              have := HN.out
              omega)
            refine wpMix_only 14 (by kernel_rfl) (X2.out.ext.alloc _) ?_
            refine mOp_value (v := .slice va' (g.length + 1) vc') (w' := W3) (by rfl) (by rfl) ?_ ?_
            · exact exec_append _ _ (.tmp 24) (.tmp 37) 23 (by rfl) (.slice va m vc) (.slice (some ⟨W2.heap.size, 0, none⟩) 1 1) _ _ W3 (by simp [Act.eval, Act.put]) (by simp [Act.eval, Act.put]) hrun
            have X3 : Hid (OwnW w w W3 (.slice ka km kc) X) := (X2.out.mono ((Ext.refl _).alloc _)).keptP (O2.out.ext ((Ext.refl _).alloc _)).2 (by decide) (Nat.le_refl _) hg3
            have O3 : Hid (OwnP w W3 (.slice va' (g.length + 1) vc') (g ++ [(z, y)])) := hO3
            clear hrun hO3 hg3 X2 O2
            refine wpMix_lastv (v := .slice va' (g.length + 1) vc') (w' := W3) 15 (by kernel_rfl) (by kernel_rfl) (by rfl) (by rfl) X3.out.ext ?_ X3.out.ext ?_
            · go_simp
            simp only [Act.put, List.setIfInBounds_toArray, List.set_cons_zero, List.set_cons_succ]
            have YV : Hid (Value.slice (some ⟨b, o, none⟩) (s + 1) yc = Wd.v ⟨some ⟨b, o, none⟩, yc, yl.take (s + 1)⟩) := by
              show _ = _
              simp only [Wd.v]
              rw [List.length_take, HYL.out, Nat.min_eq_left hkn]
            have YB : Hid (Bits w ⟨some ⟨b, o, none⟩, yc, yl.take (s + 1)⟩) := HY.out.first (by rw [HYL.out]; exact hkn)
            have XL : Hid (X.length ≤ 10000) := by
              show _ ≤ _
              rw [X3.out.len]
              omega
            have hys : ¬ (yc < s + 1) := by omega
            have hyn : ¬ (yn < s + 1) := by omega
            obtain ⟨m3, hm3⟩ : ∃ m3, g.length + 1 = m3 := ⟨_, rfl⟩
            rw [hm3] at O3 ⊢
            have hm64' : m3 ≤ 64 := by
              have h1 := NX.out.few
              have h2 := HN.out
              simp only [List.length_append, List.length_singleton] at h1
              omega
            have HKX : Hid (X.length + 1 ≤ 65) := by
              have h1 := NX.out.len
              simp only [List.length_append, List.length_singleton, List.length_map] at h1
              show _ ≤ _
              omega
            have HDL : Hid ((yl.drop (s + 1)).length = yn - (s + 1)) := by
              show _ = _
              rw [List.length_drop, HYL.out]
            have FIN : Hid (∀ (ra : Option Addr) (rc : Nat), Bits w ⟨ra, rc, yl.drop (s + 1)⟩ → ∀ ka' km' kc' W4, OwnW w w W4 (.slice ka' km' kc') (X ++ [⟨some ⟨b, o, none⟩, yc, yl.take (s + 1)⟩]) → (W3.alloc (.cells #[.slice (some ⟨b, o, none⟩) (s + 1) yc] 22)).grownBy W4 (Value.slice ka km kc).ownBlock →
                PM t w W4 ⟨ra, rc, yl.drop (s + 1)⟩ (.slice ka' km' kc') (.slice va' m3 vc')) := fun ra rc hb ka' km' kc' W4 hX4 hg4 => by
              refine ⟨_, _, hX4, (O3.out.ext ((Ext.refl _).alloc _)).keptW (X3.out.mono ((Ext.refl _).alloc _)).own (by decide) (Nat.le_refl _) hg4, hb, ?_⟩
              have := NX.out
              simpa using this
            have HY2 := HY.out.rest (q := s + 1) (by rw [HYL.out]; exact hkn) ⟨b, o, none⟩ rfl
            clear hm3
            by_cases hcq : yc = s + 1
            · subst hcq
              have REST : Hid (Bits w ⟨some ⟨b, o, none⟩, 0, yl.drop (s + 1)⟩) := by
                rw [if_pos rfl, Nat.sub_self] at HY2
                exact HY2
              clear HY2 NX O3 HY
              go_wp2_with (at_builtin; refine wpList_appendW rfl _ _ rfl w w W3 (.slice ka km kc) (by rfl) X X3.out ⟨some ⟨b, o, none⟩, s + 1, yl.take (s + 1)⟩ _ YV.out _ (by rfl) rfl YB.out XL.out ?_; intro ka' km' kc' W4 hkm hX4 hg4; have HF : Hid (PM t w W4 ⟨some ⟨b, o, none⟩, 0, yl.drop (s + 1)⟩ (.slice ka' km' kc') (.slice va' m3 vc')) := FIN.out _ _ REST.out ka' km' kc' W4 hX4 hg4; have hkm' : km' ≤ 65 := by { have := HKX.out; omega }; clear hkm hX4 hg4 FIN REST)
              go_roundg (yn - (s + 1))
              case measure => omega
              case rel => exact ⟨_, ka', va', 0, 0, km', kc', m3, vc', rfl, rfl, rfl, by omega, by omega, hkm', hm64', ⟨yl.drop (s + 1), by rw [HDL.out]; omega, HF.out⟩⟩
            · have REST : Hid (Bits w ⟨some ⟨b, o + (s + 1), none⟩, yc - (s + 1), yl.drop (s + 1)⟩) := by
                rw [if_neg hcq, Addr.add_lit] at HY2
                exact HY2
              clear HY2 NX O3 HY
              go_wp2_with (at_builtin; refine wpList_appendW rfl _ _ rfl w w W3 (.slice ka km kc) (by rfl) X X3.out ⟨some ⟨b, o, none⟩, yc, yl.take (s + 1)⟩ _ YV.out _ (by rfl) rfl YB.out XL.out ?_; intro ka' km' kc' W4 hkm hX4 hg4; have HF : Hid (PM t w W4 ⟨some ⟨b, o + (s + 1), none⟩, yc - (s + 1), yl.drop (s + 1)⟩ (.slice ka' km' kc') (.slice va' m3 vc')) := FIN.out _ _ REST.out ka' km' kc' W4 hX4 hg4; have hkm' : km' ≤ 65 := by { have := HKX.out; omega }; clear hkm hX4 hg4 FIN REST)
              go_roundg (yn - (s + 1))
              case measure => omega
              case rel => exact ⟨_, ka', va', yn - (s + 1), _, km', kc', m3, vc', rfl, rfl, rfl, by omega, by omega, hkm', hm64', ⟨yl.drop (s + 1), HDL.out, HF.out⟩⟩

end Go.Proofs.Ytjgheojfdkfmkaa
