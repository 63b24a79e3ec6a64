/-
  The races that the program starts with.
-/
import Derived.Test.YtlhkifbjbibfoaaSt
import Derived.Deep.DeepCutAuto
namespace Go.Proofs.Ytlhkifbjbibfoaa
open Go.RowKit

/-- The bits of the words. -/
abbrev wl (g : List Wd) : List (List Bool) := g.map (·.l)

set_option maxHeartbeats 2000000 in
theorem starts_any (a : Option Addr) (c : Nat) (g : List Wd) (w : World) (hg : Wds w a c g) (hn8 : g.length ≤ 8) (hw8 : ∀ x ∈ g, x.l.length ≤ 8) :
    Calls Try.prog 23 #[.slice a g.length c] w fun e w' => ∃ v R, e = .returned v ∧ Races w w w' v R ∧ St (wl g) (wl g).length R := by
  have HG : Hid (Wds w a c g) := hg
  obtain ⟨h1, h2, _, b, o, h4, h5⟩ := hg
  obtain ⟨n, hn⟩ : ∃ n, g.length = n := ⟨_, rfl⟩
  have HN : Hid (g.length = n) := hn
  have HW : Hid (∀ x ∈ g, x.l.length ≤ 8) := hw8
  have H5 : Hid (∀ i (h : i < g.length), w.cell? ⟨b, o + i, none⟩ = some (g[i].v)) := h5
  have HB : Hid (∀ i (h : i < g.length), Bits w g[i]) := fun i h => HG.out.2.2.1 _ (List.getElem_mem h)
  unfold maxLen at h2
  rw [hn] at h1 h4 hn8 ⊢
  clear hn h5 hw8
  go_enter Try.func23, Try.ntmps23
  go_wp2
  go_loopg [3, 4, 5, 6, 7, 10, 26] n (fun gg v _ _ _ _ s _ wr => ∃ i : Nat, i ≤ n ∧ n - i ≤ gg ∧ s = .int .i64 i ∧ Aside (RS w w wr v (St (wl g) i)))
  case atStart => exact ⟨0, Nat.zero_le _, by omega, rfl, [], Races.nil (Ext.refl w), st_zero _⟩
  case round =>
    obtain ⟨i, hi, hgg, rfl, A⟩ := hrel
    by_cases hlt : i < n
    · have hltz : (i : Int) < (n : Int) := by omega
      obtain rfl := h4 (by omega)
      have hil : i < g.length := by rw [HN.out]; exact hlt
      have hil' : i < (wl g).length := by simpa using hil
      obtain ⟨x, hx⟩ : ∃ x, g[i] = x := ⟨_, rfl⟩
      have HX : Hid ((wl g)[i] = x.l) := by show _ = _; rw [← hx]; simp
      have HBX : Hid (Bits w x) := by rw [← hx]; exact HB.out i hil
      have HX8 : Hid (x.l.length ≤ 8) := by rw [← hx]; exact HW.out _ (List.getElem_mem hil)
      have e1 : wr.cell? ⟨b, o + i, none⟩ = some x.v := by
        rw [← hx]
        exact A.out.ext.cell (H5.out i hil)
      clear hx
      obtain ⟨xa, xc, xl⟩ := x
      simp only [Wd.v] at e1
      obtain ⟨q, hq⟩ : ∃ q, xl.length = q := ⟨_, rfl⟩
      have HQ : Hid (xl.length = q) := hq
      rw [hq] at e1
      clear hq h4
      go_upto_if 17 with fail
      go_cut [3] (fun s3 wx => Aside (RS w w wx s3 (St2 (wl g) i 0)))
      case first =>
        by_cases h0 : q = 0
        · subst h0
          have hx0 : Hid ((wl g)[i] = []) := by show _ = _; rw [HX.out]; exact List.eq_nil_of_length_eq_zero HQ.out
          have R1 : Hid (RS w w (wr.alloc (.cells #[.int .i64 (i : Int)] 3)) u3 (St (wl g) i)) := A.out.mono ((Ext.refl wr).alloc _)
          go_wp2_with (at_builtin; refine wpList_appendOne rfl _ _ rfl w w _ _ (by rfl) R1.out (Rc.mk (.slice none 0 0) (.slice (some ⟨wr.heap.size, 0, none⟩) 1 1) [] [(i : Int)] ⟨none, 0, []⟩) _ rfl _ (by rfl) (by simp) ⟨LN.nil _, LN.one wr _, bits_none w⟩ (fun R h => by have := h.few; omega) (fun R h => st_bare h (sound_one (good_bare hil' hx0.out) (by simp) (by simp)) rfl) ?_; intro v' w1 B)
          go_meet
          case rel => exact B
        · have h0z : ¬ (q : Int) = 0 := by omega
          go_wp2
          go_meet
          case rel => exact A.out.imp (fun R h => st_not h hil' (fun e => h0 (by rw [HX.out] at e; rw [← HQ.out]; exact congrArg List.length e)))
      case rest =>
        have A1 : Hid (RS w w wc u3 (St2 (wl g) i 0)) := hcut.out
        clear hcut A e1
        go_wp2
        go_loopg [3, 6, 7, 26] n (fun gg v _ _ s wr => ∃ j : Nat, j ≤ n ∧ n - j ≤ gg ∧ s = .int .i64 j ∧ Aside (RS w w wr v (St2 (wl g) i j)))
        case atStart => exact ⟨0, Nat.zero_le _, by omega, rfl, A1.out⟩
        case round =>
          obtain ⟨j, hj, hggj, rfl, A⟩ := hrel
          clear A1
          by_cases hltj : j < n
          · have hltjz : (j : Int) < (n : Int) := by omega
            have hjl : j < g.length := by rw [HN.out]; exact hltj
            have hjl' : j < (wl g).length := by simpa using hjl
            obtain ⟨y, hy⟩ : ∃ y, g[j] = y := ⟨_, rfl⟩
            have HY : Hid ((wl g)[j] = y.l) := by show _ = _; rw [← hy]; simp
            have HBY : Hid (Bits w y) := by rw [← hy]; exact HB.out j hjl
            have HY8 : Hid (y.l.length ≤ 8) := by rw [← hy]; exact HW.out _ (List.getElem_mem hjl)
            have e2 : wr.cell? ⟨b, o + j, none⟩ = some y.v := by
              rw [← hy]
              exact A.out.ext.cell (H5.out j hjl)
            clear hy
            have hc := begins_any ⟨xa, xc, xl⟩ y wr (HBX.out.ext A.out.ext) (HBY.out.ext A.out.ext)
            obtain ⟨ya, yc, yl⟩ := y
            simp only [Wd.v] at e2 hc
            rw [HQ.out] at hc
            obtain ⟨p, hp⟩ : ∃ p, yl.length = p := ⟨_, rfl⟩
            have HP : Hid (yl.length = p) := hp
            rw [hp] at e2 hc
            clear hp
            by_cases hij : j = i
            · subst hij
              clear hc
              go_wp2
              go_roundg (n - (j + 1))
              case measure => omega
              case rel => exact ⟨j + 1, by omega, by omega, by go_num, A.out.imp (fun R h => st2_skip h hil' hjl' (Or.inl rfl))⟩
            · have hijz : ¬ (j : Int) = (i : Int) := by omega
              cases hpre : xl.isPrefixOf yl
              · rw [hpre] at hc
                go_wp2_with (go_at_call 32; refine hc.mono ?_; rintro e w1 ⟨rfl, hb⟩)
                go_roundg (n - (j + 1))
                case measure => omega
                case rel => exact ⟨j + 1, by omega, by omega, by go_num, (A.out.mono hb.ext).imp (fun R h => st2_skip h hil' hjl' (Or.inr (by rw [HX.out, HY.out]; exact hpre)))⟩
              · rw [hpre] at hc
                have hqp : q ≤ p := by
                  have := (List.isPrefixOf_iff_prefix.1 hpre).length_le
                  rw [HQ.out, HP.out] at this
                  exact this
                have hgood : Hid (∀ r : Rc, r.b = [(i : Int)] → r.a = [(j : Int)] → r.t.l = yl.drop q → Sound (wl g) 2 [r] ∧ r.t.l = (wl g)[j].drop (wl g)[i].length) := by
                  intro r h1 h2 h3
                  have hd : r.t.l = (wl g)[j].drop (wl g)[i].length := by rw [h3, HX.out, HY.out, HQ.out]
                  refine ⟨sound_one ?_ ?_ ?_, hd⟩
                  · rw [h1, h2, hd]
                    exact good_start hil' hjl' (fun e => hij e.symm) (by rw [HX.out, HY.out]; exact hpre)
                  · rw [h3, List.length_drop]
                    exact Nat.le_trans (Nat.sub_le _ _) HY8.out
                  · rw [h1, h2]
                    simp
                have HQL : Hid (q ≤ yl.length) := by show _ ≤ _; rw [HP.out]; exact hqp
                by_cases hcq : yc = q
                · subst hcq
                  obtain ⟨t1, t2, t3⟩ := HBY.out.restA HQL.out
                  have hpq : p = yc := by rw [← HP.out]; exact t3
                  subst hpq
                  have T1 : Hid (Bits w ⟨ya, 0, []⟩) := t1
                  have T2 : Hid (yl.drop p = []) := t2
                  clear t1 t2 t3
                  have R1 : Hid (∀ w1, Qt wr w1 → RS w w ((w1.alloc (.cells #[.int .i64 (i : Int)] 3)).alloc (.cells #[.int .i64 (j : Int)] 3)) u3 (St2 (wl g) i j)) := fun w1 hb => A.out.mono ((hb.ext.alloc _).alloc _)
                  clear A
                  go_wp2_with (first | (go_at_call 32; refine hc.mono ?_; rintro e w1 ⟨rfl, hb⟩) | (at_builtin; refine wpList_appendOne rfl _ _ rfl w w _ _ (by rfl) (R1.out w1 hb) (Rc.mk (.slice (some ⟨w1.heap.size, 0, none⟩) 1 1) (.slice (some ⟨w1.heap.size + 1, 0, none⟩) 1 1) [(i : Int)] [(j : Int)] ⟨ya, 0, []⟩) _ (by simp) _ (by rfl) (by simp) ⟨(LN.one w1 _).ext ((Ext.refl _).alloc _), (by simpa using LN.one (w1.alloc (.cells #[.int .i64 (i : Int)] 3)) (j : Int)), T1.out⟩ (fun R h => by have := h.few; omega) (fun R h => st2_step h hil' hjl' (hgood.out _ rfl rfl T2.out.symm).1 (hgood.out _ rfl rfl T2.out.symm).2) ?_; intro v' w1 B))
                  go_roundg (n - (j + 1))
                  case measure => omega
                  case rel => exact ⟨j + 1, by omega, by omega, by go_num, B⟩
                · obtain ⟨ad, hya, t1⟩ := HBY.out.restB HQL.out hcq
                  have T1 : Hid (Bits w ⟨some (ad.add q), yc - q, yl.drop q⟩) := t1
                  have hcqz : ¬ (yc : Int) = (q : Int) := by omega
                  subst hya
                  clear t1
                  have hyc := HBY.out.1
                  have hym := HBY.out.2.1
                  unfold maxLen at hym
                  simp only [HP.out] at hyc hym
                  have R1 : Hid (∀ w1, Qt wr w1 → RS w w ((w1.alloc (.cells #[.int .i64 (i : Int)] 3)).alloc (.cells #[.int .i64 (j : Int)] 3)) u3 (St2 (wl g) i j)) := fun w1 hb => A.out.mono ((hb.ext.alloc _).alloc _)
                  clear A
                  have TV : Hid (Value.slice (some (ad.add q)) (p - q) (yc - q) = (Wd.mk (some (ad.add q)) (yc - q) (yl.drop q)).v) := by
                    show _ = _
                    simp only [Wd.v, List.length_drop, HP.out]
                  go_wp2_with (first | (go_at_call 32; refine hc.mono ?_; rintro e w1 ⟨rfl, hb⟩) | (at_builtin; refine wpList_appendOne rfl _ _ rfl w w _ _ (by rfl) (R1.out w1 hb) (Rc.mk (.slice (some ⟨w1.heap.size, 0, none⟩) 1 1) (.slice (some ⟨w1.heap.size + 1, 0, none⟩) 1 1) [(i : Int)] [(j : Int)] ⟨some (ad.add q), yc - q, yl.drop q⟩) _ TV.out _ (by rfl) (by simp) ⟨(LN.one w1 _).ext ((Ext.refl _).alloc _), (by simpa using LN.one (w1.alloc (.cells #[.int .i64 (i : Int)] 3)) (j : Int)), T1.out⟩ (fun R h => by have := h.few; omega) (fun R h => st2_step h hil' hjl' (hgood.out _ rfl rfl rfl).1 (hgood.out _ rfl rfl rfl).2) ?_; intro v' w1 B))
                  go_roundg (n - (j + 1))
                  case measure => omega
                  case rel => exact ⟨j + 1, by omega, by omega, by go_num, B⟩
          · have A2 : Hid (RS w w wr u3 (St (wl g) (i + 1))) := by
              have hjn : j = (wl g).length := by have := HN.out; simp; omega
              have h8 : (wl g).length ≤ 8 := by have := HN.out; simp; omega
              exact A.out.imp (fun R h => st2_end (hjn ▸ h) h8)
            clear A
            go_wp2
            go_roundg (n - (i + 1))
            case measure => omega
            case rel => exact ⟨i + 1, by omega, by omega, by go_num, A2.out⟩
    · have A2 : Hid (RS w w wr u3 (St (wl g) (wl g).length)) := by
        have hjn : i = (wl g).length := by have := HN.out; simp; omega
        exact A.out.imp (fun R h => hjn ▸ h)
      clear A
      go_wp2
      go_ret
      obtain ⟨R, hR, hS⟩ := A2.out
      exact ⟨_, R, rfl, hR, hS⟩

end Go.Proofs.Ytlhkifbjbibfoaa
