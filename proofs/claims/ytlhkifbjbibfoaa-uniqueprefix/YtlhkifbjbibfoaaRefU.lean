/-
  What quipuref.Unique answers.
-/
import Derived.Test.YtlhkifbjbibfoaaOwnW
import Derived.Test.YtlhkifbjbibfoaaRf
import Derived.Test.YtlhkifbjbibfoaaStarts
namespace Go.Proofs.Ytlhkifbjbibfoaa
open Go.RowKit

theorem beq_bits (a b : List Bool) : (a == b) = decide (b = a) := by
  rw [Bool.eq_iff_iff, beq_iff_eq, decide_eq_true_iff]
  exact ⟨Eq.symm, Eq.symm⟩

/-- No two texts are alike, as a truth value. -/
noncomputable def uq (g : List Wd) : Bool := @decide (Uniq (wl g)) (Classical.propDecidable _)
theorem uq_true {g : List Wd} (h : Uniq (wl g)) : uq g = true := by simp [uq, h]
theorem uq_false {g : List Wd} (h : ¬ Uniq (wl g)) : uq g = false := by simp [uq, h]
theorem uq_iff {g : List Wd} : uq g = true ↔ Uniq (wl g) := by simp [uq]

set_option maxRecDepth 10000 in
set_option maxHeartbeats 4000000 in
theorem refUnique_any (a : Option Addr) (c : Nat) (g : List Wd) (w : World) (hg : Wds w a c g) (hn8 : g.length ≤ 8) (hw8 : ∀ x ∈ g, x.l.length ≤ 8) :
    Calls Try.prog 10 #[.slice a g.length c] w fun e w' => e = .returned (.bool (uq g)) ∧ Ext w w' := by
  have HG : Hid (Wds w a c g) := hg
  obtain ⟨h1, h2, _, b, o, h4, h5⟩ := hg
  obtain ⟨n, hn⟩ : ∃ n, g.length = n := ⟨_, rfl⟩
  have HN : Hid (g.length = n) := hn
  have HNW : Hid ((wl g).length = n) := by show _ = _; rw [List.length_map]; exact hn
  have HW : Hid (∀ x ∈ g, x.l.length ≤ 8) := hw8
  have H5 : Hid (∀ i (h : i < g.length), w.cell? ⟨b, o + i, none⟩ = some (g[i].v)) := h5
  have HB : Hid (∀ i (h : i < g.length), Bits w g[i]) := fun i h => HG.out.2.2.1 _ (List.getElem_mem h)
  unfold maxLen at h2
  rw [hn] at h1 h4 hn8 ⊢
  clear hn h5 hw8
  go_enter Try.func10, Try.ntmps10
  go_wp2
  go_loopg [4, 19] n (fun gg _ s wr => wr = w ∧ ∃ i : Nat, i ≤ n ∧ n - i ≤ gg ∧ s = .int .i64 i ∧ Aside (∀ i' (h : i' < (wl g).length), i' < i → (wl g)[i'] ≠ []))
  case atStart => exact ⟨rfl, 0, Nat.zero_le _, by omega, rfl, fun _ _ h => absurd h (Nat.not_lt_zero _)⟩
  case round =>
    obtain ⟨hw, i, hi, hgg, rfl, A⟩ := hrel
    have hw := hw.symm
    subst hw
    by_cases hlt : i < n
    · have hltz : (i : Int) < (n : Int) := by omega
      obtain rfl := h4 (by omega)
      have hil : i < g.length := by rw [HN.out]; exact hlt
      have hil' : i < (wl g).length := by simpa using hil
      have e1 := H5.out i hil
      obtain ⟨x, hx⟩ : ∃ x, g[i] = x := ⟨_, rfl⟩
      have HX : Hid ((wl g)[i] = x.l) := by show _ = _; rw [← hx]; simp
      rw [hx] at e1
      clear hx h4
      obtain ⟨xa, xc, xl⟩ := x
      simp only [Wd.v] at e1
      obtain ⟨q, hq⟩ : ∃ q, xl.length = q := ⟨_, rfl⟩
      have HQ : Hid (xl.length = q) := hq
      rw [hq] at e1
      clear hq
      by_cases h0 : q = 0
      · subst h0
        have hx0 : Hid ((wl g)[i] = []) := by show _ = _; rw [HX.out]; exact List.eq_nil_of_length_eq_zero HQ.out
        go_wp2
        go_ret
        exact ⟨ret_bool (uq_false (uniq_bare hil' hx0.out)).symm, Ext.refl _⟩
      · have h0z : ¬ (q : Int) = 0 := by omega
        have A' : Hid (∀ i' (h : i' < (wl g).length), i' < i + 1 → (wl g)[i'] ≠ []) := fun i' h hlt' => by
          by_cases e : i' = i
          · subst e
            rw [HX.out]
            exact fun e => h0 (by rw [← HQ.out]; exact congrArg List.length e)
          · exact A.out i' h (by omega)
        clear A
        go_wp2
        go_roundg (n - (i + 1))
        case measure => omega
        case rel => exact ⟨rfl, i + 1, by omega, by omega, by go_num, A'.out⟩
    · have NB : Hid (∀ i' (h : i' < (wl g).length), (wl g)[i'] ≠ []) := fun i' h => A.out i' h (by have := HNW.out; omega)
      clear A
      have WF : Hid (∀ i, i < n → ∃ (hi : i < (wl g).length) (x : Wd), (wl g)[i] = x.l ∧ Bits w x ∧ x.l.length ≤ 8 ∧ ∀ W, Ext w W → W.cell? ⟨b, o + i, none⟩ = some x.v) := fun i hi => by
        have hil : i < g.length := by rw [HN.out]; exact hi
        exact ⟨by simpa using hil, g[i], by simp, HB.out i hil, HW.out _ (List.getElem_mem hil), fun W hW => hW.cell (H5.out i hil)⟩
      go_wp2_with fail
      go_loopg [5, 6, 7, 8, 9, 29, 36] n (fun gg v _ _ _ _ s _ wr => ∃ i : Nat, i ≤ n ∧ n - i ≤ gg ∧ s = .int .i64 i ∧ Aside (WS w w wr v (Rs (wl g) i 0)))
      case atStart => exact ⟨0, Nat.zero_le _, by omega, rfl, [], OwnW.nil (Ext.refl _), rs_zero _⟩
      case round =>
        clear hi hgg hlt
        obtain ⟨i, hi, hgg, rfl, A⟩ := hrel
        by_cases hlt : i < n
        · have hltz : (i : Int) < (n : Int) := by omega
          obtain rfl := h4 (by omega)
          obtain ⟨hil, x, hx, hbx, hx8, hcx⟩ := WF.out i hlt
          have HX : Hid ((wl g)[i] = x.l) := hx
          have HBX : Hid (Bits w x) := hbx
          have e1 := hcx wr A.out.ext
          clear hx hbx hcx hx8 h4
          obtain ⟨xa, xc, xl⟩ := x
          simp only [Wd.v] at e1
          obtain ⟨q, hq⟩ : ∃ q, xl.length = q := ⟨_, rfl⟩
          have HQ : Hid (xl.length = q) := hq
          rw [hq] at e1
          clear hq
          go_wp2_with fail
          go_loopg [5, 8, 9, 36] n (fun gg v _ _ s wr => ∃ j : Nat, j ≤ n ∧ n - j ≤ gg ∧ s = .int .i64 j ∧ Aside (WS w w wr v (Rs (wl g) i j)))
          case atStart => exact ⟨0, Nat.zero_le _, by omega, rfl, A.out⟩
          case round =>
            clear A e1
            obtain ⟨j, hj, hggj, rfl, A⟩ := hrel
            by_cases hltj : j < n
            · have hltjz : (j : Int) < (n : Int) := by omega
              obtain ⟨hjl, y, hy, hby, hy8, hcy⟩ := WF.out j hltj
              have HY : Hid ((wl g)[j] = y.l) := hy
              have HY8 : Hid ((wl g)[j].length ≤ 8) := by rw [hy]; exact hy8
              have HBY : Hid (Bits w y) := hby
              have e2 := hcy wr A.out.ext
              have hc := refBegins_any ⟨xa, xc, xl⟩ y wr (HBX.out.ext A.out.ext) (HBY.out.ext A.out.ext)
              clear hy hby hcy hy8
              obtain ⟨ya, yc, yl⟩ := y
              simp only [Wd.v] at e2 hc
              rw [HQ.out] at hc
              obtain ⟨p, hp⟩ : ∃ p, yl.length = p := ⟨_, rfl⟩
              have HP : Hid (yl.length = p) := hp
              rw [hp] at e2 hc
              clear hp
              by_cases hij : i = j
              · subst hij
                clear hc
                go_wp2
                go_roundg (n - (i + 1))
                case measure => omega
                case rel => exact ⟨i + 1, by omega, by omega, by go_num, A.out.imp (fun R h => rs_skip h hil hjl (Or.inl rfl))⟩
              · have hijz : ¬ (i : Int) = (j : Int) := by omega
                cases hpre : xl.isPrefixOf yl
                · rw [hpre] at hc
                  go_wp2_with (go_at_call 21; refine hc.mono ?_; rintro e w1 ⟨rfl, hb⟩)
                  go_roundg (n - (j + 1))
                  case measure => omega
                  case rel => exact ⟨j + 1, by omega, by omega, by go_num, (A.out.mono hb.ext).imp (fun R h => rs_skip h hil hjl (Or.inr (by rw [HX.out, HY.out]; exact hpre)))⟩
                · rw [hpre] at hc
                  have hqp : q ≤ p := by
                    have := (List.isPrefixOf_iff_prefix.1 hpre).length_le
                    rw [HQ.out, HP.out] at this
                    exact this
                  have HPR : Hid ((wl g)[i].isPrefixOf (wl g)[j] = true) := by rw [HX.out, HY.out]; exact hpre
                  have HDR : Hid ((wl g)[j].drop (wl g)[i].length = yl.drop q) := by show _ = _; rw [HX.out, HY.out, HQ.out]
                  have stepS : Hid (∀ T, Rs (wl g) i j T → Rs (wl g) i (j + 1) (T ++ [yl.drop q])) := fun T h => by
                    have := rs_step h hil hjl hij HPR.out HY8.out
                    rw [HDR.out] at this
                    exact this
                  have fewS : Hid (∀ T, Rs (wl g) i j T → T.length ≤ 10000) := fun T h => by have := h.few; omega
                  have HQL : Hid (q ≤ yl.length) := by show _ ≤ _; rw [HP.out]; exact hqp
                  have R1 : Hid (∀ w1, Qt wr w1 → WS w w w1 u5 (Rs (wl g) i j)) := fun w1 hb => A.out.mono hb.ext
                  clear A hpre
                  by_cases hcq : yc = q
                  · subst hcq
                    obtain ⟨t1, t2, t3⟩ := HBY.out.restA HQL.out
                    have hpq : p = yc := by rw [← HP.out]; exact t3
                    subst hpq
                    have T1 : Hid (Bits w ⟨ya, 0, []⟩) := t1
                    have T2 : Hid (yl.drop p = []) := t2
                    clear t1 t2 t3
                    go_wp2_with (first | (go_at_call 21; refine hc.mono ?_; rintro e w1 ⟨rfl, hb⟩) | (at_builtin; refine wpList_appendWd rfl _ _ rfl w w _ _ (by rfl) (R1.out w1 hb) ⟨ya, 0, []⟩ _ (by simp) _ (by rfl) rfl T1.out fewS.out (fun T h => T2.out ▸ stepS.out T h) ?_; intro v' w1 B))
                    go_roundg (n - (j + 1))
                    case measure => omega
                    case rel => exact ⟨j + 1, by omega, by omega, by go_num, B⟩
                  · obtain ⟨ad, hya, t1⟩ := HBY.out.restB HQL.out hcq
                    have T1 : Hid (Bits w ⟨some (ad.add q), yc - q, yl.drop q⟩) := t1
                    have hcqz : ¬ (yc : Int) = (q : Int) := by omega
                    subst hya
                    clear t1
                    have hyc := HBY.out.1
                    have hym := HBY.out.2.1
                    unfold maxLen at hym
                    simp only [HP.out] at hyc hym
                    have TV : Hid (Value.slice (some (ad.add q)) (p - q) (yc - q) = (Wd.mk (some (ad.add q)) (yc - q) (yl.drop q)).v) := by
                      show _ = _
                      simp only [Wd.v, List.length_drop, HP.out]
                    go_wp2_with (first | (go_at_call 21; refine hc.mono ?_; rintro e w1 ⟨rfl, hb⟩) | (at_builtin; refine wpList_appendWd rfl _ _ rfl w w _ _ (by rfl) (R1.out w1 hb) ⟨some (ad.add q), yc - q, yl.drop q⟩ _ TV.out _ (by rfl) rfl T1.out fewS.out (fun T h => stepS.out T h) ?_; intro v' w1 B))
                    go_roundg (n - (j + 1))
                    case measure => omega
                    case rel => exact ⟨j + 1, by omega, by omega, by go_num, B⟩
            · have A2 : Hid (WS w w wr u5 (Rs (wl g) (i + 1) 0)) := by
                have hjn : j = (wl g).length := by have := HNW.out; omega
                have h8 : (wl g).length ≤ 8 := by have := HNW.out; omega
                exact A.out.imp (fun R h => rs_next (hjn ▸ h) h8)
              clear A
              go_wp2
              go_roundg (n - (i + 1))
              case measure => omega
              case rel => exact ⟨i + 1, by omega, by omega, by go_num, A2.out⟩
        · have A2 : Hid (WS w w wr u5 (fun T => Rm (wl g) T 0 0)) := by
            have hjn : i = (wl g).length := by have := HNW.out; omega
            have h8 : (wl g).length ≤ 8 := by have := HNW.out; omega
            exact A.out.imp (fun R h => rm_start (hjn ▸ h) h8)
          clear A
          obtain ⟨va0, m0, vc0, hv0, T0, hT0, hm0⟩ := A2.out.len
          have hm0' : m0 ≤ 576 := by rw [← hm0]; exact hT0.few
          clear hT0 hm0
          have A3 : Hid (WS w w wr (.slice va0 m0 vc0) (fun T => Rm (wl g) T 0 0)) := by rw [← hv0]; exact A2.out
          subst hv0
          clear A2
          go_wp2_with fail
          clear hi hgg hlt
          go_loopg [5, 10, 12, 13, 14, 16, 72, 104] 600 (fun gg v s _ _ _ _ _ _ wr => ∃ (k m : Nat) (va : Option Addr) (vc : Nat), s = .int .i64 k ∧ v = .slice va m vc ∧ k ≤ m ∧ m ≤ 576 ∧ 600 - k ≤ gg ∧ Aside (WS w w wr (.slice va m vc) (fun T => Rm (wl g) T k 0)))
          case atStart => exact ⟨0, m0, va0, vc0, rfl, rfl, Nat.zero_le _, hm0', by omega, A3.out⟩
          case round =>
            clear A3
            obtain ⟨k, m, va, vc, rfl, rfl, hkm, hm5, hgg, A⟩ := hrel
            by_cases hlt : k < m
            · have hltz : (k : Int) < (m : Int) := by omega
              obtain ⟨X, hX, hP⟩ := A.out
              have hXm := hX.len
              have hkX : k < X.length := by rw [hXm]; exact hlt
              have hkT : k < (X.map (·.l)).length := by simpa using hkX
              obtain ⟨G, hva, d0⟩ := hX.at k hkX
              subst hva
              obtain ⟨t, ht⟩ : ∃ t, X[k] = t := ⟨_, rfl⟩
              have HTB : Hid (Bits w t) := by rw [← ht]; exact hX.ok _ (List.getElem_mem hkX)
              have HTL : Hid ((X.map (·.l))[k] = t.l) := by show _ = _; rw [← ht]; simp
              have HT8 : Hid (t.l.length ≤ 8) := by rw [← HTL.out]; exact (hP.snd _ (List.getElem_mem hkT)).1
              have HXX : Hid (∃ X, OwnW w w wr (.slice (some ⟨G, 0, none⟩) m vc) X ∧ Rm (wl g) (X.map (·.l)) k 0 ∧ ∃ h : k < X.length, X[k] = t) := ⟨X, hX, hP, hkX, ht⟩
              have HE0 : Hid (t.l = [] → ¬ Uniq (wl g)) := fun e => rm_empty hP hkT (by rw [HTL.out]; exact e)
              have EX : Hid (Ext w wr) := hX.ext
              rw [ht] at d0
              clear A hX hP ht hXm hkX hkT HTL
              obtain ⟨ta, tc, tl⟩ := t
              simp only [Wd.v] at d0 HE0 HT8
              obtain ⟨p, hp⟩ : ∃ p, tl.length = p := ⟨_, rfl⟩
              have HP : Hid (tl.length = p) := hp
              rw [hp] at d0
              clear hp
              by_cases hp0 : p = 0
              · subst hp0
                go_wp2
                go_ret
                exact ⟨ret_bool (uq_false (HE0.out (List.eq_nil_of_length_eq_zero HP.out))).symm, EX.out⟩
              · have hp0z : ((p : Int) == 0) = false := beq_eq_false_iff_ne.2 (by omega)
                have HNE : Hid (tl ≠ []) := fun e => hp0 (by rw [← HP.out]; exact congrArg List.length e)
                go_wp2_with fail
                go_loopg [5, 12, 13, 14, 16, 72, 104] n (fun gg v _ _ _ _ s _ wr => ∃ (j m : Nat) (va : Option Addr) (vc : Nat), j ≤ n ∧ n - j ≤ gg ∧ s = .int .i64 j ∧ v = .slice va m vc ∧ k < m ∧ m ≤ 576 ∧ Aside (∃ X, OwnW w w wr (.slice va m vc) X ∧ Rm (wl g) (X.map (·.l)) k j ∧ ∃ h : k < X.length, X[k] = ⟨ta, tc, tl⟩))
                case atStart => exact ⟨0, m, _, vc, Nat.zero_le _, by omega, rfl, rfl, hlt, hm5, HXX.out⟩
                case round =>
                  clear HXX d0 hlt hltz hm5 hkm EX
                  obtain ⟨j, m, va, vc, hj, hggj, rfl, rfl, hlt, hm5, A⟩ := hrel
                  have hltz : (k : Int) < (m : Int) := by omega
                  by_cases hltj : j < n
                  · have hltjz : (j : Int) < (n : Int) := by omega
                    obtain rfl := h4 (by omega)
                    obtain ⟨hjl, x, hx, hbx, hx8, hcx⟩ := WF.out j hltj
                    obtain ⟨X, hX, hP, hkX, hXk⟩ := A.out
                    have e1 := hcx wr hX.ext
                    have HX : Hid ((wl g)[j] = x.l) := hx
                    have HX8 : Hid ((wl g)[j].length ≤ 8) := by rw [hx]; exact hx8
                    have HBX : Hid (Bits w x) := hbx
                    obtain ⟨G, hva, d0⟩ := hX.at k hkX
                    subst hva
                    rw [hXk] at d0
                    have hc := refBegins_any x ⟨ta, tc, tl⟩ wr (HBX.out.ext hX.ext) (HTB.out.ext hX.ext)
                    have hd := fun w1 (e : Ext wr w1) => refBegins_any ⟨ta, tc, tl⟩ x w1 (HTB.out.ext (hX.ext.trans e)) (HBX.out.ext (hX.ext.trans e))
                    have HOX : Hid (OwnW w w wr (.slice (some ⟨G, 0, none⟩) m vc) X) := hX
                    have HRM : Hid (Rm (wl g) (X.map (·.l)) k j) := hP
                    have HXK : Hid (∃ h : k < X.length, X[k] = ⟨ta, tc, tl⟩) := ⟨hkX, hXk⟩
                    have HXM : Hid (X.length = m) := hX.len
                    clear hx hbx hcx hx8 A hX hP hXk hkX h4
                    obtain ⟨xa, xc, xl⟩ := x
                    simp only [Wd.v] at e1 d0 hc hd HX
                    obtain ⟨q, hq⟩ : ∃ q, xl.length = q := ⟨_, rfl⟩
                    have HQ : Hid (xl.length = q) := hq
                    rw [hq] at e1
                    rw [hq, HP.out] at hc
                    have HD : Hid (∀ w1, Ext wr w1 → Calls Try.prog 21 #[.slice ta p tc, .slice xa q xc] w1 fun e w' => e = .returned (.bool (tl.isPrefixOf xl)) ∧ Qt w1 w') := fun w1 e => by
                      have := hd w1 e
                      rw [HQ.out, HP.out] at this
                      exact this
                    rw [HP.out] at d0
                    clear hq hd
                    obtain ⟨bx, hbx⟩ : ∃ bx, xl.isPrefixOf tl = bx := ⟨_, rfl⟩
                    have HPX : Hid (xl.isPrefixOf tl = bx) := hbx
                    rw [hbx] at hc
                    clear hbx
                    go_upto_if 81 with (go_at_call 21; refine hc.mono ?_; rintro e w1 ⟨rfl, hb⟩)
                    go_cut [13, 14] (fun s13 s14 wx => ∃ (ya : Option Addr) (yn yc : Nat) (mb : Bool), s13 = .slice ya yn yc ∧ s14 = .bool mb ∧ Aside (Ext wr wx ∧ ∃ yl, yl.length = yn ∧ Bits w ⟨ya, yc, yl⟩ ∧ stp xl tl = (if mb then some yl else none)))
                    case first =>
                      have d1 := hb.cell d0
                      have E1 : Hid (Ext wr w1) := hb.ext
                      clear d0 e1 hc hb
                      cases bx
                      · have hd := HD.out w1 E1.out
                        obtain ⟨by', hby⟩ : ∃ by', tl.isPrefixOf xl = by' := ⟨_, rfl⟩
                        have HPY : Hid (tl.isPrefixOf xl = by') := hby
                        rw [hby] at hd
                        clear hby
                        cases by'
                        · go_wp2_with (go_at_call 21; refine hd.mono ?_; rintro e w2 ⟨rfl, hb⟩)
                          go_meet
                          case rel => exact ⟨none, 0, 0, false, rfl, rfl, E1.out.trans hb.ext, [], rfl, bits_none w, by simp [stp, HPX.out, HPY.out]⟩
                        · have hmq : p ≤ q := by
                            have := (List.isPrefixOf_iff_prefix.1 HPY.out).length_le
                            rw [HQ.out, HP.out] at this
                            exact this
                          have SS : Hid (stp xl tl = some (xl.drop p)) := by
                            show _ = _
                            simp [stp, HPX.out, HPY.out, HP.out]
                          by_cases hcq : xc = p
                          · subst hcq
                            obtain ⟨t1, t2, t3⟩ := HBX.out.restA (by rw [HQ.out]; exact hmq)
                            have hpq : q = xc := by rw [← HQ.out]; exact t3
                            subst hpq
                            have T1 : Hid (Bits w ⟨xa, 0, []⟩) := t1
                            have T2 : Hid (xl.drop q = []) := t2
                            clear t1 t2 t3
                            go_wp2_with (go_at_call 21; refine hd.mono ?_; rintro e w2 ⟨rfl, hb⟩; have d1 := hb.cell d1)
                            go_meet
                            case rel => exact ⟨xa, _, 0, true, rfl, rfl, E1.out.trans hb.ext, [], by simp, T1.out, by rw [SS.out, T2.out]; rfl⟩
                          · obtain ⟨ad, hya, t1⟩ := HBX.out.restB (by rw [HQ.out]; exact hmq) hcq
                            have T1 : Hid (Bits w ⟨some (ad.add p), xc - p, xl.drop p⟩) := t1
                            have hcqz : ¬ (xc : Int) = (p : Int) := by omega
                            subst hya
                            clear t1
                            have hyc := HBX.out.1
                            have hym := HBX.out.2.1
                            unfold maxLen at hym
                            simp only [HQ.out] at hyc hym
                            go_wp2_with (go_at_call 21; refine hd.mono ?_; rintro e w2 ⟨rfl, hb⟩; have d1 := hb.cell d1)
                            go_meet
                            case rel => exact ⟨_, _, _, true, rfl, rfl, E1.out.trans hb.ext, xl.drop p, by simp [HQ.out], T1.out, SS.out⟩
                      · have hqp : q ≤ p := by
                          have := (List.isPrefixOf_iff_prefix.1 HPX.out).length_le
                          rw [HQ.out, HP.out] at this
                          exact this
                        have SS : Hid (stp xl tl = some (tl.drop q)) := by
                          show _ = _
                          simp [stp, HPX.out, HQ.out]
                        by_cases hcq : tc = q
                        · subst hcq
                          obtain ⟨t1, t2, t3⟩ := HTB.out.restA (by rw [HP.out]; exact hqp)
                          have hpq : p = tc := by rw [← HP.out]; exact t3
                          subst hpq
                          have T1 : Hid (Bits w ⟨ta, 0, []⟩) := t1
                          have T2 : Hid (tl.drop p = []) := t2
                          clear t1 t2 t3
                          go_wp2
                          go_meet
                          case rel => exact ⟨ta, _, 0, true, rfl, rfl, E1.out, [], by simp, T1.out, by rw [SS.out, T2.out]; rfl⟩
                        · obtain ⟨ad, hya, t1⟩ := HTB.out.restB (by rw [HP.out]; exact hqp) hcq
                          have T1 : Hid (Bits w ⟨some (ad.add q), tc - q, tl.drop q⟩) := t1
                          have hcqz : ¬ (tc : Int) = (q : Int) := by omega
                          subst hya
                          clear t1
                          have hyc := HTB.out.1
                          have hym := HTB.out.2.1
                          unfold maxLen at hym
                          simp only [HP.out] at hyc hym
                          go_wp2
                          go_meet
                          case rel => exact ⟨_, _, _, true, rfl, rfl, E1.out, tl.drop q, by simp [HP.out], T1.out, SS.out⟩
                    case rest =>
                      obtain ⟨ya, yn, yc, mb, rfl, rfl, C⟩ := hcut
                      obtain ⟨hE, yl, hyn, hyb, hys⟩ := C.out
                      have HYN : Hid (yl.length = yn) := hyn
                      have HYB : Hid (Bits w ⟨ya, yc, yl⟩) := hyb
                      have YV : Hid (Value.slice ya yn yc = (Wd.mk ya yc yl).v) := by show _ = _; rw [← hyn]
                      have HYS : Hid (stp (wl g)[j] tl = (if mb then some yl else none)) := by rw [HX.out]; exact hys
                      have HO2 : Hid (OwnW w w wc (.slice (some ⟨G, 0, none⟩) m vc) X) := HOX.out.mono hE
                      clear C hE hyn hyb hys hc HD HOX d0 e1 hb HPX
                      go_wp2_with fail
                      go_loopg [14, 16, 104] m (fun gg v _ s wr => ∃ (l : Nat) (mb' : Bool), l ≤ m ∧ m - l ≤ gg ∧ s = .int .i64 l ∧ v = .bool mb' ∧ Aside (Ext wc wr ∧ mb' = (mb && !((X.map (·.l)).take l).contains yl)))
                      case atStart => exact ⟨0, mb, Nat.zero_le _, by omega, rfl, rfl, Ext.refl _, by simp⟩
                      case round =>
                        obtain ⟨l, mb', hl, hggl, rfl, rfl, A⟩ := hrel
                        by_cases hll : l < m
                        · have hllz : (l : Int) < (m : Int) := by omega
                          have hlX : l < X.length := by rw [HXM.out]; exact hll
                          obtain ⟨G', hG', d2⟩ := (HO2.out.mono A.out.1).at l hlX
                          injection hG' with hG'
                          injection hG' with hG'
                          subst hG'
                          have hcb := bools_any X[l] ⟨ya, yc, yl⟩ wr ((HO2.out.ok _ (List.getElem_mem hlX)).ext (HO2.out.ext.trans A.out.1)) (HYB.out.ext (HO2.out.ext.trans A.out.1))
                          have EA : Hid (Ext wc wr) := A.out.1
                          have nx : Hid ((mb && !((X.map (·.l)).take (l + 1)).contains yl) = (mb' && !(X[l].l == yl))) := by
                            show _ = _
                            rw [A.out.2, List.take_succ_eq_append_getElem (by simpa using hlX)]
                            rw [beq_bits]
                            simp [Bool.and_assoc]
                          generalize X[l] = z at d2 hcb nx
                          obtain ⟨za, zc, zl⟩ := z
                          simp only [Wd.v] at d2 hcb nx
                          rw [HYN.out] at hcb
                          generalize zl.length = zn at d2 hcb
                          generalize (zl == yl) = be at hcb nx
                          clear A
                          cases be
                          · go_wp2_with (go_at_call 13; refine hcb.mono ?_; rintro e w2 ⟨rfl, hb⟩)
                            go_roundg (m - (l + 1))
                            case measure => omega
                            case rel => exact ⟨l + 1, mb', by omega, by omega, by go_num, rfl, EA.out.trans hb.ext, by rw [nx.out]; simp⟩
                          · go_wp2_with (go_at_call 13; refine hcb.mono ?_; rintro e w2 ⟨rfl, hb⟩)
                            go_roundg (m - (l + 1))
                            case measure => omega
                            case rel => exact ⟨l + 1, false, by omega, by omega, by go_num, rfl, EA.out.trans hb.ext, by rw [nx.out]; simp⟩
                        · have FB : Hid (Ext wc wr ∧ mb' = (mb && !(X.map (·.l)).contains yl)) := by
                            have h := A.out
                            rw [List.take_of_length_le (by rw [List.length_map, HXM.out]; omega)] at h
                            exact h
                          have HO3 : Hid (OwnW w w wr (.slice (some ⟨G, 0, none⟩) m vc) X) := HO2.out.mono FB.out.1
                          have hkT : Hid (∃ h : k < (X.map (·.l)).length, (X.map (·.l))[k] = tl) := by
                            obtain ⟨h, e⟩ := HXK.out
                            exact ⟨by simpa using h, by simp [e]⟩
                          clear A HO2
                          cases mb'
                          · have NX : Hid (∃ X, OwnW w w wr (.slice (some ⟨G, 0, none⟩) m vc) X ∧ Rm (wl g) (X.map (·.l)) k (j + 1) ∧ ∃ h : k < X.length, X[k] = ⟨ta, tc, tl⟩) := by
                              obtain ⟨hk, e⟩ := hkT.out
                              refine ⟨X, HO3.out, rm_old HRM.out hk hjl (fun u hu => ?_), HXK.out⟩
                              rw [e, HYS.out] at hu
                              have hf := FB.out.2
                              cases mb
                              · simp at hu
                              · simp only [if_true, Option.some.injEq] at hu
                                subst hu
                                simpa using hf
                            go_wp2
                            go_roundg (n - (j + 1))
                            case measure => omega
                            case rel => exact ⟨j + 1, m, _, vc, by omega, by omega, by go_num, rfl, hlt, hm5, NX.out⟩
                          · have hms : Hid (mb = true ∧ yl ∉ X.map (·.l)) := by
                              have hf := FB.out.2
                              cases mb
                              · simp at hf
                              · refine ⟨rfl, ?_⟩
                                simpa using hf
                            have fin : Hid (∀ v' w', OwnW w w w' v' (X ++ [⟨ya, yc, yl⟩]) → ∃ va' vc', v' = .slice va' (m + 1) vc' ∧ m + 1 ≤ 576 ∧ Hid (∃ X', OwnW w w w' (.slice va' (m + 1) vc') X' ∧ Rm (wl g) (X'.map (·.l)) k (j + 1) ∧ ∃ h : k < X'.length, X'[k] = ⟨ta, tc, tl⟩)) := by
                              intro v' w' hX'
                              obtain ⟨hk, e⟩ := hkT.out
                              have hst := HYS.out
                              rw [hms.out.1] at hst
                              have hR := rm_new HRM.out hk hjl HX8.out (by rw [e]; exact HNE.out) (by rw [e]; exact hst) hms.out.2
                              obtain ⟨va', vc', hv'⟩ := hX'.form
                              have hlen : (X ++ [Wd.mk ya yc yl]).length = m + 1 := by simp [HXM.out]
                              rw [hlen] at hv'
                              have hfew := hR.few
                              simp [HXM.out] at hfew
                              obtain ⟨hk', e'⟩ := HXK.out
                              exact ⟨va', vc', hv', by omega, _, hv' ▸ hX', by simpa using hR, by simp; omega, by rw [List.getElem_append_left hk']; exact e'⟩
                            go_wp2_with (at_builtin; refine wpList_appendW rfl _ _ rfl w w _ _ (by rfl) X HO3.out ⟨ya, yc, yl⟩ _ YV.out _ (by rfl) rfl HYB.out (by rw [HXM.out]; omega) ?_; intro v' w1 B; obtain ⟨va', vc', hv', hm6, B2⟩ := fin.out v' w1 B; subst hv'; clear B)
                            go_roundg (n - (j + 1))
                            case measure => omega
                            case rel => exact ⟨j + 1, m + 1, va', vc', by omega, by omega, by go_num, rfl, by omega, hm6, B2.out⟩
                  · have NX : Hid (WS w w wr (.slice va m vc) (fun T => Rm (wl g) T (k + 1) 0)) := by
                      obtain ⟨X, hX, hP, hk, e⟩ := A.out
                      have hjn : j = (wl g).length := by have := HNW.out; omega
                      exact ⟨X, hX, rm_next (hjn ▸ hP) (by simpa using hk) (by simp only [List.getElem_map, e]; exact HNE.out)⟩
                    clear A
                    go_wp2
                    go_roundg (600 - (k + 1))
                    case measure => omega
                    case rel => exact ⟨k + 1, m, va, vc, by go_num, rfl, by omega, hm5, Nat.le_refl _, NX.out⟩
            · have U : Hid (Uniq (wl g) ∧ Ext w wr) := by
                obtain ⟨X, hX, hP⟩ := A.out
                have := hX.len
                exact ⟨rm_end hP (by rw [List.length_map]; omega) NB.out, hX.ext⟩
              clear A
              go_wp2
              go_ret
              exact ⟨ret_bool (uq_true U.out.1).symm, U.out.2⟩

end Go.Proofs.Ytlhkifbjbibfoaa
