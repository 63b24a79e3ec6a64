/-
  elias.gamma, elias.Gamma, elias.Delta: the bits of a number.
-/
import Derived.Test.YtenpinjbeejamaaCat
import Derived.Test.YtenpinjbeejamaaMix
namespace Go.Proofs.Ytenpinjbeejamaa
open Go.RowKit

theorem Wd.made (w : World) (k : Nat) (hk : k ≤ 1000) : Bits (w.alloc (.cells (madeCells #[.bool false] k) 4)) ⟨some ⟨w.heap.size, 0, none⟩, k, List.replicate k false⟩ := by
  have h := Row.made w 4 (.bool false) k
  rw [← List.map_replicate (f := Value.bool)] at h
  have h2 := h.bits (by rw [List.length_replicate]; unfold maxLen; omega)
  rw [List.length_replicate] at h2
  exact h2

/-- Two words that lie in a block of their own. -/
theorem two_cells (W : World) (u v : Value) : (W.alloc (.cells #[u, v] 22)).cell? ⟨W.heap.size, 0, none⟩ = some u ∧ (W.alloc (.cells #[u, v] 22)).cell? ⟨W.heap.size, 1, none⟩ = some v := by
  have h := heap_alloc_new W (.cells #[u, v] 22)
  exact ⟨cell_of_row _ _ 0 _ 22 (0, 0) h, cell_of_row _ _ 1 _ 22 (0, 0) h⟩

/-- What a call has told: a word of its own, and all else as it was. -/
def Told (w w' : World) (v : Value) (l : List Bool) : Prop := (∃ x : Wd, v = x.v ∧ x.l = l ∧ Bits w' x) ∧ Ext w w'

set_option maxHeartbeats 2000000 in
theorem gamma_any (n : Nat) (h0 : n ≠ 0) (hn : n ≤ 1048576) (w : World) :
    Calls Try.prog 18 #[.int .i64 (n : Int)] w fun e w' => ∃ v, e = .returned v ∧ Told w w' v (gam n) := by
  have hd := edigits_any n hn w
  have hs := nd_21 hn
  have hp := nd_pos h0
  have hg : gam n = List.replicate (nd n - 1) false ++ dg n (nd n) := rfl
  rw [hg]
  clear hg
  obtain ⟨k, hk⟩ : ∃ k, nd n = k + 1 := ⟨nd n - 1, by omega⟩
  rw [hk] at hd ⊢
  rw [Nat.add_sub_cancel]
  have hk20 : k ≤ 20 := by omega
  clear hk hs hp
  have hl := dg_length n (k + 1)
  generalize dg n (k + 1) = D at *
  have hmk := run_make_row' (P := Try.prog) 22 4 (.bool false) 1 Try.underlying22 info4 rfl .i64 .i64 k (by omega) (by omega)
  have HC : Hid (∀ (x : Wd) (w1 W : World), x.l = D → Bits w1 x → Ext w w1 → W = (w1.alloc (.cells (madeCells #[.bool false] k) 4)).alloc (.cells #[.slice (some ⟨w1.heap.size, 0, none⟩) k k, x.v] 22) →
      Calls Try.prog 21 #[.slice (some ⟨w1.heap.size + 1, 0, none⟩) 2 2] W fun e w' => ∃ v, e = .returned v ∧ Told w w' v (List.replicate k false ++ D)) := by
    rintro x w1 W hx hb he rfl
    have hm := Wd.made w1 k (by omega)
    have h2 := two_cells (w1.alloc (.cells (madeCells #[.bool false] k) 4)) (.slice (some ⟨w1.heap.size, 0, none⟩) k k) x.v
    have hz : (w1.alloc (.cells (madeCells #[.bool false] k) 4)).heap.size = w1.heap.size + 1 := by simp
    rw [hz] at h2
    have e1 : Ext w1 (w1.alloc (.cells (madeCells #[.bool false] k) 4)) := (Ext.refl _).alloc _
    generalize w1.alloc (.cells (madeCells #[.bool false] k) 4) = W1 at *
    have e2 : Ext W1 (W1.alloc (.cells #[.slice (some ⟨w1.heap.size, 0, none⟩) k k, x.v] 22)) := (Ext.refl _).alloc _
    generalize W1.alloc (.cells #[.slice (some ⟨w1.heap.size, 0, none⟩) k k, x.v] 22) = W2 at *
    refine (concat_any ⟨some ⟨w1.heap.size, 0, none⟩, k, List.replicate k false⟩ x (w1.heap.size + 1) W2 (hm.ext e2) ((hb.ext e1).ext e2) (by simp only [Wd.v, List.length_replicate]; exact h2.1) h2.2 (by rw [hx, hl]; omega) (by rw [hx, hl]; simp; omega)).mono ?_
    rintro e w' ⟨v, rfl, hv⟩
    refine ⟨v, rfl, ?_, ((he.trans e1).trans e2).trans hv.1⟩
    obtain ⟨y, hy1, hy2, hy3⟩ := hv.bits
    exact ⟨y, hy1, by rw [hy2, hx], hy3⟩
  go_enter Try.func18, Try.ntmps18
  go_wp2_with fail
  refine hd.mono ?_
  rintro e w1 ⟨⟨x, rfl, hx, hb⟩, he⟩
  have HX := HC.out x w1 _ hx hb he rfl
  clear HC hb he hd
  obtain ⟨xa, xc, xl⟩ := x
  simp only at hx
  subst hx
  simp only [Wd.v] at HX ⊢
  rw [hl] at HX ⊢
  clear hl
  go_wp2_with fail
  refine HX.mono ?_
  rintro e w2 ⟨v, rfl, hv⟩
  have HV : Hid (Told w w2 v (List.replicate k false ++ xl)) := hv
  clear hv HX
  go_wp2
  go_ret
  exact ⟨v, rfl, HV.out⟩

theorem Gamma_good (n : Nat) (h0 : n ≠ 0) (hn : n ≤ 1048576) (w : World) :
    Calls Try.prog 9 #[.int .i64 (n : Int)] w fun e w' => ∃ v, e = .returned (.tuple #[v, .int .i64 0]) ∧ Told w w' v (gam n) := by
  have hg := gamma_any n h0 hn w
  have hc := check_any n w
  rw [show ck n = 0 from if_pos (by omega)] at hc
  generalize gam n = D at *
  go_enter Try.func9, Try.ntmps9
  go_wp2_with fail
  refine hc.mono ?_
  rintro e w1 ⟨rfl, rfl⟩
  go_wp2_with fail
  refine hg.mono ?_
  rintro e w2 ⟨v, rfl, hv⟩
  have HV : Hid (Told w1 w2 v D) := hv
  clear hv hg hc
  go_wp2
  go_ret2
  exact ⟨v, rfl, HV.out⟩

theorem Gamma_bad (n : Int) (h : ¬ (1 ≤ n ∧ n ≤ 1048576)) (w : World) :
    Calls Try.prog 9 #[.int .i64 n] w fun e w' => e = .returned (.tuple #[.slice none 0 0, .int .i64 4]) ∧ w' = w := by
  have hc := check_any n w
  rw [show ck n = 4 from if_neg h] at hc
  clear h
  go_enter Try.func9, Try.ntmps9
  go_wp2_with fail
  refine hc.mono ?_
  rintro e w1 ⟨rfl, rfl⟩
  go_wp2
  go_ret2
  exact ⟨rfl, rfl⟩

theorem Delta_bad (n : Int) (h : ¬ (1 ≤ n ∧ n ≤ 1048576)) (w : World) :
    Calls Try.prog 12 #[.int .i64 n] w fun e w' => e = .returned (.tuple #[.slice none 0 0, .int .i64 4]) ∧ w' = w := by
  have hc := check_any n w
  rw [show ck n = 4 from if_neg h] at hc
  clear h
  go_enter Try.func12, Try.ntmps12
  go_wp2_with fail
  refine hc.mono ?_
  rintro e w1 ⟨rfl, rfl⟩
  go_wp2
  go_ret2
  exact ⟨rfl, rfl⟩

theorem Bits.rest {w : World} {a : Option Addr} {q c : Nat} {l : List Bool} (h : Bits w ⟨a, c, l⟩) (hq : q ≤ l.length) (p : Addr) (ha : a = some p) : Bits w ⟨if c = q then some p else some (p.add q), c - q, l.drop q⟩ := by
  subst ha
  obtain ⟨h1, h2, h0, b, o, h3, h4⟩ := h
  simp only at h1 h2 h0 h3 h4
  by_cases hc : c = q
  · rw [if_pos hc, List.drop_eq_nil_of_le (by omega)]
    exact ⟨Nat.zero_le _, Nat.le_trans (Nat.sub_le _ _) h2, by simp, 0, 0, by simp, by simp⟩
  · rw [if_neg hc]
    refine ⟨by simp; omega, by simp; omega, by simp, b, o + q, fun hl => ?_, fun i hi => ?_⟩
    · simp only [List.length_drop] at hl
      have hp := h3 (by omega)
      injection hp with hp
      subst hp
      simp only
      rw [Addr.add_lit]
    · simp only [List.length_drop] at hi
      have := h4 (q + i) (by omega)
      rw [Nat.add_assoc, this]
      simp [List.getD_eq_getElem?_getD, List.getElem?_drop]

set_option maxHeartbeats 2000000 in
theorem Delta_good (n : Nat) (h0 : n ≠ 0) (hn : n ≤ 1048576) (w : World) :
    Calls Try.prog 12 #[.int .i64 (n : Int)] w fun e w' => ∃ v, e = .returned (.tuple #[v, .int .i64 0]) ∧ Told w w' v (del n) := by
  have hd := edigits_any n hn w
  have hs := nd_21 hn
  have hp := nd_pos h0
  have hc := check_any n w
  rw [show ck n = 0 from if_pos (by omega)] at hc
  have hdd := dg_nd h0
  have hdl : del n = gam (nd n) ++ dg n (nd n - 1) := rfl
  have hgl := gam_length (nd n)
  have hgm : Hid (∀ W, Calls Try.prog 18 #[.int .i64 (nd n : Nat)] W fun e w' => ∃ v, e = .returned v ∧ Told W w' v (gam (nd n))) := fun W => gamma_any (nd n) (by omega) (by omega) W
  have hg20 : (gam (nd n)).length ≤ 41 := by
    have := nd_21 (n := nd n) (by omega)
    omega
  have hlen := dg_length n (nd n)
  have HG1 : Hid ((gam (nd n)).length = nd (nd n) - 1 + nd (nd n)) := hgl
  have hpp := nd_pos (n := nd n) (by omega)
  rw [hdl]
  generalize gam (nd n) = G at *
  have hD1 : dg n (nd n - 1) = (dg n (nd n)).drop 1 := by rw [hdd]; rfl
  rw [hD1]
  clear hdl hgl hdd hD1
  generalize dg n (nd n) = D at *
  generalize nd n = k at *
  go_enter Try.func12, Try.ntmps12
  go_wp2_with fail
  refine hc.mono ?_
  rintro e w0 ⟨rfl, rfl⟩
  clear hc
  go_wp2_with fail
  refine hd.mono ?_
  rintro e w1 ⟨⟨x, rfl, hx, hb⟩, he⟩
  clear hd
  obtain ⟨xa, xc, xl⟩ := x
  simp only at hx
  subst hx
  simp only [Wd.v]
  rw [hlen]
  have HL : Hid (xl.length = k) := hlen
  have HE : Hid (Ext w0 w1) := he
  have hxa : ∃ p, xa = some p := by
    obtain ⟨_, _, _, b, o, h3, _⟩ := hb
    exact ⟨_, h3 (by simp only; omega)⟩
  obtain ⟨p, rfl⟩ := hxa
  have hkc : k ≤ xc := by have := hb.1; simp only at this; omega
  have hcm := hb.2.1
  simp only at hcm
  have HR : Hid (Bits w1 ⟨if xc = 1 then some p else some (p.add 1), xc - 1, xl.drop 1⟩) := hb.rest (by omega) p rfl
  have HRL : Hid ((xl.drop 1).length = k - 1) := by show _ = _; rw [List.length_drop]; omega
  obtain ⟨R, hR⟩ : ∃ R, R = xl.drop 1 := ⟨_, rfl⟩
  rw [← hR] at HR HRL
  have HRR : Hid (R = xl.drop 1) := hR
  have hk1 : (1 : Int) ≤ (k : Int) := by omega
  clear hlen he hb hR
  unfold maxLen at hcm
  go_wp2
  refine wp_region_mix (fun _ => True) 9 (by rfl) (by kernel_rfl) ?_
  refine wpMix_take (v := .slice (some p) k xc) 0 (by rfl) (by kernel_rfl) ⟨by rfl, ?_⟩ ?_
  · rintro W -
    go_simp
  refine wpMix_take (v := .int .i64 k) 1 (by rfl) (by kernel_rfl) ⟨by rfl, ?_⟩ ?_
  · rintro W -
    go_simp
  refine wpMix_take (v := .slice (some p) k xc) 3 (by rfl) (by kernel_rfl) ⟨by rfl, ?_⟩ ?_
  · rintro W -
    go_simp
  refine wpMix_take (v := .slice (if xc = 1 then some p else some (p.add 1)) (k - 1) (xc - 1)) 4 (by rfl) (by kernel_rfl) ⟨by rfl, ?_⟩ ?_
  · rintro W -
    go_simp
  have E1 : Hid (Ext w0 w1.drew) := HE.out.trans ((Ext.refl w1).drewN 1)
  have R1 : Hid (Bits w1.drew ⟨if xc = 1 then some p else some (p.add 1), xc - 1, R⟩) := HR.out.ext ((Ext.refl w1).drewN 1)
  clear HE HR
  generalize w1.drew = W1 at *
  generalize (if xc = 1 then some p else some (p.add 1)) = pa at *
  generalize xc - 1 = pc at *
  refine wpMix_only 2 (by kernel_rfl) trivial ?_
  refine mOp_call (f := 18) (args := #[.int .i64 (k : Int)]) (w' := W1) (by rfl) (by rfl) ?_ ?_
  · go_simp
  refine (hgm.out W1).mono ?_
  rintro e W2 ⟨v, rfl, ⟨⟨ga, gc, gl⟩, rfl, hg, hb⟩, he⟩
  refine ⟨_, rfl, ?_⟩
  simp only at hg
  subst hg
  have HB : Hid (Bits W2 ⟨ga, gc, gl⟩) := hb
  have E2 : Hid (Ext w0 W2) := E1.out.trans he
  have R2 : Hid (Bits W2 ⟨pa, pc, R⟩) := R1.out.ext he
  clear hb he E1 R1 hgm
  simp only [Wd.v]
  refine wpMix_only 5 (by kernel_rfl) trivial ?_
  refine mOp_value (v := .slice (some ⟨W2.heap.size, 0, none⟩) 2 2) (w' := W2.alloc (.cells #[.slice ga gl.length gc, .slice pa (k - 1) pc] 22)) (by rfl) (by rfl) ?_ ?_
  · go_simp
  have K3 := two_cells W2 (.slice ga gl.length gc) (.slice pa (k - 1) pc)
  have E3 : Hid (Ext W2 (W2.alloc (.cells #[.slice ga gl.length gc, .slice pa (k - 1) pc] 22))) := (Ext.refl W2).alloc _
  generalize W2.alloc (.cells #[.slice ga gl.length gc, .slice pa (k - 1) pc] 22) = W3 at *
  have HC : Hid (Calls Try.prog 21 #[.slice (some ⟨W2.heap.size, 0, none⟩) 2 2] W3 fun e w' => ∃ v, e = .returned v ∧ Told w0 w' v (gl ++ R)) := by
    refine (concat_any ⟨ga, gc, gl⟩ ⟨pa, pc, R⟩ W2.heap.size W3 (HB.out.ext E3.out) (R2.out.ext E3.out) K3.1 (by simp only [Wd.v]; rw [HRL.out]; exact K3.2) ?_ ?_).mono ?_
    · simp only
      rw [HG1.out]
      omega
    · simp only
      rw [HRL.out]
      omega
    · rintro e w' ⟨v, rfl, hv⟩
      exact ⟨v, rfl, hv.bits, (E2.out.trans E3.out).trans hv.1⟩
  clear K3
  refine wpMix_only 6 (by kernel_rfl) trivial ?_
  refine mOp_call (f := 21) (args := #[.slice (some ⟨W2.heap.size, 0, none⟩) 2 2]) (w' := W3) (by rfl) (by rfl) ?_ ?_
  · go_simp
  refine HC.out.mono ?_
  rintro e W4 ⟨v, rfl, hv⟩
  refine ⟨_, rfl, ?_⟩
  rw [HRR.out] at hv
  have HV : Hid (Told w0 W4 v (gl ++ List.drop 1 xl)) := hv
  clear hv HC
  refine wpMix_only 7 (by kernel_rfl) trivial ?_
  refine mOp_value (v := v) (w' := W4) (by rfl) (by rfl) ?_ ?_
  · go_simp
  refine wpMix_lastv (v := .int .i64 0) (w' := W4) 8 (by kernel_rfl) (by kernel_rfl) (by rfl) (by rfl) trivial ?_ trivial ?_
  · go_simp
  simp only [Act.put, List.setIfInBounds_toArray, List.set_cons_zero, List.set_cons_succ]
  go_wp2
  go_ret2
  exact ⟨v, rfl, HV.out⟩

end Go.Proofs.Ytenpinjbeejamaa
