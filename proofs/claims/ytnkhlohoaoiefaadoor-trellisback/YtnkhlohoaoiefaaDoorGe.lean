/-
  trellis.Get.
-/
import Derived.Test.YtnkhlohoaoiefaaDoorDa
namespace Go.Proofs.YtnkhlohoaoiefaaDoor
open Go.RowKit
set_option linter.unusedVariables false

theorem get_bad (x : Wd) (hm : x.l.length ≤ 9223372036854775807) (h0 : ge x.l.length ≠ 0) (w : World) : Calls Tryd.prog 6 #[x.v] w fun e w' => e = .returned (.tuple #[.slice none 0 0, .int .i64 0, .int .i64 (ge x.l.length : Nat)]) ∧ w' = w := by
  have c := check_any x hm w
  have hz : ((ge x.l.length : Nat) : Int) ≠ 0 := by omega
  have hz2 : (((ge x.l.length : Nat) : Int) != 0) = true := bne_iff_ne.2 hz
  simp only [Wd.v] at *
  generalize ge x.l.length = g at *
  generalize x.l.length = n at *
  go_enter Tryd.func6, Tryd.ntmps6
  go_wp2_with fail
  refine c.mono ?_
  rintro e w1 ⟨rfl, rfl⟩
  clear c
  go_wp2
  go_ret3
  exact ⟨rfl, rfl⟩

set_option maxHeartbeats 2000000 in
theorem get_good (x : Wd) (n : Nat) (hl : x.l.length = 2 * n + 4) (hn : n ≤ 12) (w : World) (hx : Bits w x) (tb : TB w) :
    Calls Tryd.prog 6 #[x.v] w fun e w' => ∃ y : Wd, e = .returned (.tuple #[y.v, .int .i64 (nd x.l n (gy x.l n) : Nat), .int .i64 0]) ∧ y.l = dg (gy x.l n) n ∧ Bits w' y ∧ Ext w w' := by
  have c0 := check_any x (by omega) w
  have g0 : ge x.l.length = 0 := by
    unfold ge
    rw [if_neg (by omega), if_neg (by omega)]
  rw [g0] at c0
  obtain ⟨l, hll⟩ : ∃ l, x.l = l := ⟨_, rfl⟩
  obtain ⟨N, hN⟩ : ∃ N, 2 * n + 4 = N := ⟨_, rfl⟩
  have hmk : ∀ w : World, Sem.run Tryd.prog (Instr.makeMap 40 none) w = .ok (.map (some w.heap.size)) (w.alloc (.map #[] 0)) := run_makeMap 40
  simp only [Wd.v] at *
  rw [hl] at c0 ⊢
  rw [hll]
  rw [hN] at c0 ⊢
  have HWE : Hid (ways l (n + 2) false false = some (4 * gy l n, nd l n (gy l n))) := ways_end l n
  have hgl : gy l n < 2 ^ n := gy_lt l n
  have hnd : nd l n (gy l n) ≤ 2 * (n + 2) := by
    have := ways_le l HWE.out
    exact this.2
  generalize hG : gy l n = G at *
  generalize hD : nd l n G = dd at *
  clear hG hD
  go_enter Tryd.func6, Tryd.ntmps6
  go_wp2_with fail
  refine c0.mono ?_
  rintro e w1 ⟨rfl, rfl⟩
  clear c0
  have P0 : Hid (PM (w1.alloc (.map #[] 0)) w1.heap.size 0 (fun _ _ => none)) := PM.made w1
  have E0 : Hid (Ext w1 (w1.alloc (.map #[] 0))) := (Ext.refl w1).alloc _
  obtain ⟨b, o, hxa, HC⟩ : ∃ b o, x.a = some ⟨b, o, none⟩ ∧ ∀ i, i < N → w1.cell? ⟨b, o + i, none⟩ = some (.bool (l.getD i false)) := by
    obtain ⟨_, _, _, b, o, h4, h5⟩ := hx
    rw [hll] at h4 h5
    have hlN : l.length = N := by rw [← hll, hl, hN]
    rw [hlN] at h4 h5
    exact ⟨b, o, h4 (by omega), h5⟩
  have hc1 : N ≤ x.c := by
    have := hx.1
    rw [hl, hN] at this
    exact this
  have hc2 : x.c ≤ 9223372036854775807 := hx.2.1
  rw [hxa]
  have HCH : Hid (∀ i, i < N → w1.cell? ⟨b, o + i, none⟩ = some (.bool (l.getD i false))) := HC
  have cD : Hid (∀ W, Calls Tryd.prog 15 #[.slice (some ⟨b, o, none⟩) N x.c] W fun e w' => e = .returned (.int .i64 (n : Int)) ∧ w' = W) := fun W => by
    have := dataIn_any x (by omega) W
    rw [Wd.v, hl, hN, hxa] at this
    rw [show (((N / 2 : Nat) : Int) - 2) = (n : Int) by omega] at this
    exact this
  clear HC hx hll hxa
  generalize x.c = xc at *
  have W0 : Hid ((fun a b => if a = false ∧ b = false then some ((0 : Nat), (0 : Nat)) else none) = ways l 0) := rfl
  go_wp2_with (refine wpList_putP rfl _ _ _ (Or.inr (by rfl)) w1 _ _ w1.heap.size 0 (by rfl) P0.out (by omega) false false (by rfl) (0, 0) (by rfl) E0.out (Nat.le_refl _) ?_; intro w2 P2 _ E2; have PP2 : Hid (PM w2 w1.heap.size 1 (ways l 0)) := P2; have EE2 : Hid (Ext w1 w2) := E2; clear P2 E2 P0 E0 W0)
  clear hmk
  go_loopg [6, 7] (n + 2) (fun gg s6 s7 wr => ∃ k Bm cm : Nat, k ≤ n + 2 ∧ n + 2 - k ≤ gg ∧ s7 = .int .i64 (2 * k : Nat) ∧ s6 = .map (some Bm) ∧ Aside (PM wr Bm cm (ways l k)) ∧ Aside (Ext w1 wr))
  case atStart => exact ⟨0, _, _, by omega, by omega, rfl, rfl, PP2.out, EE2.out⟩
  case round =>
    obtain ⟨k, Bm, cm, hk, hgg, rfl, rfl, P, E⟩ := hrel
    clear PP2 EE2
    obtain ⟨j, hj⟩ : ∃ j, 2 * k = j := ⟨_, rfl⟩
    have P' : Hid (PM wr Bm cm (ways l k)) := P.out
    have E' : Hid (Ext w1 wr) := E.out
    clear P E
    rw [hj]
    by_cases hlt : k < n + 2
    · have hltz : (j : Int) < (N : Int) := by omega
      have hltz1 : (j : Int) + 1 < (N : Int) := by omega
      have hj0 : (0 : Int) ≤ (j : Int) := by omega
      have hj1 : (0 : Int) ≤ (j : Int) + 1 := by omega
      have ej : ((j : Int) + 1).toNat = j + 1 := by omega
      have hcL : Hid (∀ W, Ext w1 W → PM W Bm cm (ways l k) → Calls Tryd.prog 13 #[.map (some Bm), pv (l.getD j false) (l.getD (j + 1) false)] W fun e w' => ∃ B', e = .returned (.map (some B')) ∧ PM w' B' 8 (ways l (k + 1)) ∧ Ext W w') := fun W hW hP => by
        have := longer_any (l.getD j false) (l.getD (j + 1) false) (ways l k) (fun s0 s1 p hp => by
          have := ways_le l hp
          have h2 : 2 ^ k ≤ 2 ^ 14 := Nat.pow_le_pow_right (by decide) (by omega)
          omega) W Bm cm hP (tb.ext hW)
        rw [← hj] at this ⊢
        exact this
      have hc0 := HCH.out j (by omega)
      have hcc := HCH.out (j + 1) (by omega)
      have HC0 : Hid (w1.cell? ⟨b, o + j, none⟩ = some (.bool (l.getD j false))) := hc0
      have HC1 : Hid (w1.cell? ⟨b, o + (j + 1), none⟩ = some (.bool (l.getD (j + 1) false))) := hcc
      clear hc0 hcc HCH cD HWE
      generalize l.getD j false = q0 at *
      generalize l.getD (j + 1) false = q1 at *
      go_wp2_with fail
      refine wp_region_mix (Ext wr) 13 (by rfl) (by kernel_rfl) ?_
      refine wpMix_take (v := .map (some Bm)) 0 (by rfl) (by kernel_rfl) ⟨by rfl, ?_⟩ ?_
      · rintro W hW
        go_simp
      refine wpMix_take (v := .slice (some ⟨b, o, none⟩) N xc) 1 (by rfl) (by kernel_rfl) ⟨by rfl, ?_⟩ ?_
      · rintro W hW
        go_simp
      refine wpMix_take (v := .int .i64 (j : Int)) 2 (by rfl) (by kernel_rfl) ⟨by rfl, ?_⟩ ?_
      · rintro W hW
        go_simp
      refine wpMix_take (v := .pointer (some ⟨b, o + j, none⟩)) 3 (by rfl) (by kernel_rfl) ⟨by rfl, ?_⟩ ?_
      · rintro W hW
        go_simp
      refine wpMix_take (v := .bool q0) 4 (by rfl) (by kernel_rfl) ⟨by rfl, ?_⟩ ?_
      · rintro W hW
        have c := (E'.out.trans hW).cell HC0.out
        go_simp
      refine wpMix_take (v := .slice (some ⟨b, o, none⟩) N xc) 5 (by rfl) (by kernel_rfl) ⟨by rfl, ?_⟩ ?_
      · rintro W hW
        go_simp
      refine wpMix_take (v := .int .i64 (j : Int)) 6 (by rfl) (by kernel_rfl) ⟨by rfl, ?_⟩ ?_
      · rintro W hW
        go_simp
      refine wpMix_take (v := .int .i64 ((j : Int) + 1)) 7 (by rfl) (by kernel_rfl) ⟨by rfl, ?_⟩ ?_
      · rintro W hW
        have c : IntKind.i64.wrap ((j : Int) + 1) = (j : Int) + 1 := by rw [IntKind.wrap_i64]; omega
        go_simp
      refine wpMix_take (v := .pointer (some ⟨b, o + (j + 1), none⟩)) 8 (by rfl) (by kernel_rfl) ⟨by rfl, ?_⟩ ?_
      · rintro W hW
        go_simp
      refine wpMix_take (v := .bool q1) 9 (by rfl) (by kernel_rfl) ⟨by rfl, ?_⟩ ?_
      · rintro W hW
        have c := (E'.out.trans hW).cell HC1.out
        go_simp
      refine wpMix_take (v := pv q0 q1) 10 (by rfl) (by kernel_rfl) ⟨by rfl, ?_⟩ ?_
      · rintro W hW
        go_simp
      have ED : Ext wr wr.drew := ext_drew wr
      refine wpMix_only 11 (by kernel_rfl) ED ?_
      refine mOp_call (f := 13) (args := #[.map (some Bm), pv q0 q1]) (w' := wr.drew) (by rfl) (by rfl) ?_ ?_
      · go_simp
      refine (hcL.out wr.drew (E'.out.trans ED) (P'.out.ext ED)).mono ?_
      rintro e w4 ⟨B2, rfl, P4, E4⟩
      have X4 : Ext wr w4 := ED.trans E4
      refine ⟨_, rfl, ?_⟩
      refine wpMix_take (v := .map (some B2)) 12 (by rfl) (by kernel_rfl) ⟨by rfl, ?_⟩ ?_
      · rintro W hW
        go_simp
      refine wpMix_done (by kernel_rfl) X4 ?_
      have NP : Hid (PM w4 B2 8 (ways l (k + 1))) := P4
      have NE : Hid (Ext w1 w4) := E'.out.trans X4
      have e2 : j + 2 = 2 * (k + 1) := by omega
      clear hcL P' E' P4 E4 X4 ED HC0 HC1
      go_wp2
      go_roundg (n + 2 - (k + 1))
      case measure => omega
      case rel => exact ⟨k + 1, B2, 8, by omega, by omega, by go_num, rfl, NP.out, NE.out⟩
    · obtain rfl : k = n + 2 := by omega
      have hltz : ¬ (j : Int) < (N : Int) := by omega
      have hl1 : (ways l (n + 2) false false).getD (0, 0) = (4 * G, dd) := by rw [HWE.out]; rfl
      have cT : Hid (∀ W, Calls Tryd.prog 14 #[pth (4 * G, dd), .int .i64 (n : Int)] W fun e w' => ∃ y : Wd, e = .returned y.v ∧ y.l = dg G n ∧ Bits w' y ∧ Ext W w') := fun W => by
        refine (data_any G dd n hn hgl W).mono ?_
        rintro e w' ⟨⟨B, rfl, hR⟩, hE⟩
        have := hR.bits (by rw [dg_length]; unfold maxLen; omega)
        rw [dg_length] at this
        exact ⟨_, by rw [Wd.v, dg_length], rfl, this, hE⟩
      obtain ⟨Y, hY⟩ : ∃ Y, 4 * G = Y := ⟨_, rfl⟩
      rw [hY] at hl1 cT
      clear HCH HWE hj hY
      go_wp2_with (refine wpList_lookP1 rfl _ _ (by rfl) _ (ways l (n + 2)) Bm cm (by rfl) P'.out false false (by rfl) (Y, dd) hl1 ?_)
      have E2 : Hid (Ext w1 (wr.alloc (.cells #[.int .i64 (Y : Int), .int .i64 (dd : Int)] 39))) := E'.out.alloc _
      have R2 : Hid (Row (wr.alloc (.cells #[.int .i64 (Y : Int), .int .i64 (dd : Int)] 39)) wr.heap.size 39 [.int .i64 (Y : Int), .int .i64 (dd : Int)]) := row_last wr [.int .i64 (Y : Int), .int .i64 (dd : Int)] 39
      clear E' P' hl1
      generalize (wr.alloc (.cells #[.int .i64 (Y : Int), .int .i64 (dd : Int)] 39)) = V at *
      generalize wr.heap.size = A at *
      refine wp_region_mix (Ext V) 9 (by rfl) (by kernel_rfl) ?_
      refine wpMix_take (v := pth (Y, dd)) 0 (by rfl) (by kernel_rfl) ⟨by rfl, ?_⟩ ?_
      · rintro W hW
        exact loadT_run _ (by rfl) A (by rfl) _ _ (R2.out.ext hW)
      refine wpMix_take (v := .slice (some ⟨b, o, none⟩) N xc) 1 (by rfl) (by kernel_rfl) ⟨by rfl, ?_⟩ ?_
      · rintro W hW
        go_simp
      refine wpMix_take (v := .pointer (some ⟨A, 1, none⟩)) 4 (by rfl) (by kernel_rfl) ⟨by rfl, ?_⟩ ?_
      · rintro W hW
        go_simp
      refine wpMix_take (v := .int .i64 (dd : Int)) 5 (by rfl) (by kernel_rfl) ⟨by rfl, ?_⟩ ?_
      · rintro W hW
        have c := (R2.out.ext hW).cell 1 (by simp); simp only [List.getElem_cons_zero, List.getElem_cons_succ] at c
        go_simp
      have ED : Ext V V.drew := ext_drew V
      refine wpMix_only 2 (by kernel_rfl) ED ?_
      refine mOp_call (f := 15) (args := #[.slice (some ⟨b, o, none⟩) N xc]) (w' := V.drew) (by rfl) (by rfl) ?_ ?_
      · go_simp
      refine (cD.out V.drew).mono ?_
      rintro e w3 ⟨rfl, rfl⟩
      refine ⟨_, rfl, ?_⟩
      refine wpMix_only 3 (by kernel_rfl) ED ?_
      refine mOp_call (f := 14) (args := #[pth (Y, dd), .int .i64 (n : Int)]) (w' := V.drew) (by rfl) (by rfl) ?_ ?_
      · go_simp
      refine (cT.out V.drew).mono ?_
      rintro e w4 ⟨y, rfl, hy, hby, E4⟩
      have X4 : Ext V w4 := ED.trans E4
      refine ⟨_, rfl, ?_⟩
      have Y4 : Hid (y.l = dg G n ∧ Bits w4 y) := ⟨hy, hby⟩
      clear hy hby cT cD
      refine wpMix_take (v := y.v) 6 (by rfl) (by kernel_rfl) ⟨by rfl, ?_⟩ ?_
      · rintro W hW
        go_simp
      refine wpMix_take (v := .int .i64 (dd : Int)) 7 (by rfl) (by kernel_rfl) ⟨by rfl, ?_⟩ ?_
      · rintro W hW
        go_simp
      refine wpMix_take (v := .int .i64 0) 8 (by rfl) (by kernel_rfl) ⟨by rfl, ?_⟩ ?_
      · rintro W hW
        go_simp
      refine wpMix_done (by kernel_rfl) X4 ?_
      have EE : Hid (Ext w1 w4) := E2.out.trans X4
      clear R2 E2 ED X4 E4
      go_wp2
      refine bodyPost_ret (v := .tuple #[y.v, .int .i64 (dd : Int), .int .i64 0]) ?_ rfl ⟨y, rfl, Y4.out.1, Y4.out.2, EE.out⟩
      rw [results_tmp3 rfl]
      simp [Act.put]

end Go.Proofs.YtnkhlohoaoiefaaDoor
