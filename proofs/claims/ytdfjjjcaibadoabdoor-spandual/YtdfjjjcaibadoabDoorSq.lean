/-
  slices.partialInsertionSortOrdered of words.
-/
import Derived.Test.YtdfjjjcaibadoabDoorSc
import Derived.Deep.DeepCutAuto
import Derived.Deep.CutRange
namespace Go.Proofs.YtdfjjjcaibadoabDoor
open Go.RowKit Go.Sort

theorem scanSorted_go {d : Array Nat} {b k : Nat} (h : k + 1 < b ∧ (!lt d[k + 1]! d[k]!) = true) : scanSorted lt d b (k + 1) = scanSorted lt d b (k + 1 + 1) := by
  rw [scanSorted, if_pos (by simpa using h)]
theorem scanSorted_stop {d : Array Nat} {b k : Nat} (h : ¬ (k + 1 < b ∧ (!lt d[k + 1]! d[k]!) = true)) : scanSorted lt d b (k + 1) = k + 1 := by
  rw [scanSorted, if_neg (by simpa using h)]
theorem shiftDown_stop {k : Nat} {d : Array Nat} (h : lt d[k + 1]! d[k]! = false) : shiftDown lt (k + 1) d = d := by
  show (if _ then _ else _) = _
  rw [h]; rfl
theorem shiftDown_go {k : Nat} {d : Array Nat} (h : lt d[k + 1]! d[k]! = true) : shiftDown lt (k + 1) d = shiftDown lt k (swp d (k + 1) k) := by
  show (if _ then _ else _) = _
  rw [h]; rfl
theorem shiftUp_end {b j : Nat} {d : Array Nat} (h : ¬ j < b) : shiftUp lt b j d = d := by
  rw [shiftUp, if_neg h]
theorem shiftUp_stop {b k : Nat} {d : Array Nat} (hj : k + 1 < b) (h : lt d[k + 1]! d[k]! = false) : shiftUp lt b (k + 1) d = d := by
  rw [shiftUp, if_pos hj, show k + 1 - 1 = k by omega, h]; rfl
theorem shiftUp_go {b k : Nat} {d : Array Nat} (hj : k + 1 < b) (h : lt d[k + 1]! d[k]! = true) : shiftUp lt b (k + 1) d = shiftUp lt b (k + 2) (swp d (k + 1) k) := by
  rw [shiftUp, if_pos hj, show k + 1 - 1 = k by omega, h]; rfl

set_option maxRecDepth 100000 in
set_option maxHeartbeats 8000000 in
theorem partial_any (B c n a b : Nat) (d : Array Nat) (r : List Value) (w : World) (hr : UA w B d r) (hn : d.size = n) (hn2 : n ≤ 1000) (hab : a < b) (hb : b ≤ n) :
    Calls Tryd.prog 39 #[.slice (some ⟨B, 0, none⟩) n c, .int .i64 a, .int .i64 b] w
      fun e w' => e = .returned (.bool (partialInsertionSort lt d a b).2) ∧ Hid (UA w' B (partialInsertionSort lt d a b).1 r) ∧ Hid ((partialInsertionSort lt d a b).1.size = n) ∧ Hid (KB B w w') := by
  have LS : Hid (∀ W x y, Calls Tryd.prog 40 #[.int .u32 (x : Nat), .int .u32 (y : Nat)] W fun e w' => e = .returned (.bool (lt x y)) ∧ ∃ m, w' = W.drewN m) := fun W x y => less_any x y W
  have TT : Hid (partialIns lt a b (5 - 0) (a + 1) d = partialInsertionSort lt d a b) := rfl
  generalize partialInsertionSort lt d a b = R at *
  have U : Hid (UA w B d r) := hr
  have SZ : Hid (d.size = n) := hn
  obtain ⟨L, hL⟩ : ∃ L, b - a = L := ⟨_, rfl⟩
  have hLz0 : (b : Int) - (a : Int) = (L : Int) := by omega
  have HBL : Hid (b - a = L) := hL
  clear hr hn hL
  go_enter Tryd.func39, Tryd.ntmps39
  go_wp2
  go_loopg [7, 8, 9, 10] 5 (fun gg s7 s8 s9 s10 wi => ∃ (i t : Nat) (s : Array Nat), a + 1 ≤ i ∧ i ≤ b ∧ t ≤ 5 ∧ 5 - t ≤ gg ∧ s7 = .int .i64 i ∧ s8 = .int .i64 t ∧ Aside (KB B w wi) ∧ Aside (UA wi B s r) ∧ Aside (s.size = n) ∧ Aside (partialIns lt a b (5 - t) i s = R))
  case atStart => exact ⟨a + 1, 0, d, by omega, by omega, by omega, by omega, by go_num, rfl, KB.refl _ _, U.out, SZ.out, TT.out⟩
  case round =>
    clear U SZ TT
    obtain ⟨i0, t, s, hi1, hi2, ht, hgg, rfl, rfl, BW, UW, SZ', TR'⟩ := hrel
    have BK : Hid (KB B w wr) := BW.out
    have U : Hid (UA wr B s r) := UW.out
    have SZ : Hid (s.size = n) := SZ'.out
    have TR0 := TR'.out
    clear BW UW SZ' TR'
    by_cases ht5 : t < 5
    · have ht5z : (t : Int) < 5 := by omega
      rw [show 5 - t = (4 - t) + 1 by omega, partialIns_succ] at TR0
      obtain ⟨I, hI⟩ : ∃ I, scanSorted lt s b i0 = I := ⟨_, rfl⟩
      have SCU : Hid (scanSorted lt s b i0 = I) := hI
      rw [hI] at TR0
      have TR : Hid (_ = R) := TR0
      clear TR0 hI
      go_wp2
      go_loopg [7] n (fun gg s7 wi => ∃ i : Nat, a + 1 ≤ i ∧ i ≤ b ∧ n - i ≤ gg ∧ s7 = .int .i64 i ∧ Aside (KB B w wi) ∧ Aside (UA wi B s r) ∧ Aside (scanSorted lt s b i = I))
      case atStart => exact ⟨i0, by omega, by omega, by omega, by go_num, BK.out, U.out, SCU.out⟩
      case round =>
        obtain ⟨i, hi0, hin, hgi, rfl, BW, UW, SC⟩ := hrel
        clear BK U SCU
        obtain ⟨k, rfl⟩ : ∃ k, i = k + 1 := ⟨i - 1, by omega⟩
        go_upto_region 5 with fail
        go_cut [32] from 17 to 34 (fun sx wx => sx = .bool (decide (k + 1 < b ∧ (!lt s[k + 1]! s[k]!) = true)) ∧ Aside (KB B w wx) ∧ Aside (UA wx B s r))
        case first =>
          by_cases hij : k + 1 < b
          · have hijz : (k : Int) + 1 < (b : Int) := by omega
            have e1 := UW.out.cell (i := k + 1) (by rw [SZ.out]; omega)
            have e2 := UW.out.cell (i := k) (by rw [SZ.out]; omega)
            have b1 : (k : Int) + 1 < (n : Int) := by omega
            have b2 : (k : Int) < (n : Int) := by omega
            have hc : Hid (∀ q, Calls Tryd.prog 40 #[.int .u32 (s[k + 1]! : Nat), .int .u32 (s[k]! : Nat)] (wr.drewN q) fun e w' => e = .returned (.bool (lt s[k + 1]! s[k]!)) ∧ ∃ m, w' = (wr.drewN q).drewN m) := fun q => LS.out _ _ _
            generalize s[k + 1]! = y1 at *
            generalize s[k]! = y2 at *
            clear SC
            cases hl : lt y1 y2
            all_goals
              rw [hl] at hc
              have HL : Hid (lt y1 y2 = _) := hl
              clear hl
              go_wp2
              go_quiet ((go_at_call 40; exact Calls.quiet_of (hc.out _)))
              go_wp2
              go_meet
              case rel => exact ⟨congrArg Value.bool (by simp [hij, HL.out]), BW.out.trans (KB.of_ext (Qt.ext ⟨_, rfl⟩)), UW.out.ext (Qt.ext ⟨_, rfl⟩)⟩
          · have hijz : ¬ (k : Int) + 1 < (b : Int) := by omega
            obtain rfl : k + 1 = b := by omega
            go_wp2
            go_quiet (fail)
            go_wp2
            go_meet
            case rel => exact ⟨congrArg Value.bool (by simp), BW.out.trans (KB.of_ext (Qt.ext ⟨_, rfl⟩)), UW.out.ext (Qt.ext ⟨_, rfl⟩)⟩
        case rest =>
          obtain ⟨rfl, B2, U2⟩ := hcut
          by_cases hg : k + 1 < b ∧ (!lt s[k + 1]! s[k]!) = true
          · have hd := decide_eq_true hg
            have S2 : Hid (scanSorted lt s b (k + 1 + 1) = I) := by show _ = _; rw [← scanSorted_go hg]; exact SC.out
            have hlt := hg.1
            rw [hd]
            clear hd hg SC BW UW
            go_wp2
            go_roundg (n - (k + 1 + 1))
            case measure => omega
            case rel => exact ⟨k + 1 + 1, by omega, by omega, by omega, by go_num, B2.out, U2.out, S2.out⟩
          · have hd := decide_eq_false hg
            have S2 : k + 1 = I := by rw [← SC.out]; exact (scanSorted_stop hg).symm
            rw [hd]
            clear hd hg SC BW UW hgi
            subst S2
            by_cases hib : k + 1 = b
            · have hbz : ((k : Int) + 1 == (b : Int)) = true := by rw [beq_iff_eq]; omega
              have TT : Hid (R = (s, true)) := by show _ = _; have := TR.out; rw [if_pos hib] at this; exact this.symm
              have U3 : Hid (UA wc B s r) := U2.out
              have B3 : Hid (KB B w wc) := B2.out
              clear B2 U2 TR
              go_wp2
              go_ret
              exact ⟨by rw [TT.out]; rfl, by rw [TT.out]; exact U3.out, by rw [TT.out]; exact SZ.out, B3.out⟩
            · have hbz : ((k : Int) + 1 == (b : Int)) = false := by rw [beq_eq_false_iff_ne]; omega
              by_cases hL : L < 50
              · have hLz : (L : Int) < 50 := by omega
                have TT : Hid (R = (s, false)) := by show _ = _; have := TR.out; rw [if_neg hib, HBL.out, if_pos hL] at this; exact this.symm
                have U3 : Hid (UA wc B s r) := U2.out
                have B3 : Hid (KB B w wc) := B2.out
                clear B2 U2 TR
                go_wp2
                go_ret
                exact ⟨by rw [TT.out]; rfl, by rw [TT.out]; exact U3.out, by rw [TT.out]; exact SZ.out, B3.out⟩
              · have hLz : ¬ (L : Int) < 50 := by omega
                obtain ⟨y1, y2, y3, e1, e2, f1, f2, e4, f4, USW, SSW, KSW⟩ := ua_ready U2.out SZ.out (k + 1) k (by omega) (by omega)
                have b1 : (k : Int) + 1 < (n : Int) := by omega
                have b2 : (k : Int) < (n : Int) := by omega
                have TT : Hid (partialIns lt a b (4 - t) (k + 1) (fixUp lt b (k + 1) (fixDown lt a (k + 1) (swp s (k + 1) k))) = R) := by
                  show _ = _
                  have := TR.out
                  rw [if_neg hib, HBL.out, if_neg hL, show k + 1 - 1 = k by omega] at this
                  exact this
                have B3' : Hid (KB B w wc) := B2.out
                have hL2 : ¬ L < 50 := hL
                clear B2 U2 TR SZ
                go_upto_if 41 with fail
                go_wp2
                go_region
                have B4 : Hid (KB B w (((wc.setCell ⟨B, k + 1, none⟩ (.int .u32 (y2 : Nat))).setCell ⟨B, k, none⟩ (.int .u32 (y1 : Nat))).drew)) := B3'.out.trans KSW.out
                clear B3' KSW e1 e2 f1 f2 e4 f4 hbz hLz
                generalize ((wc.setCell ⟨B, k + 1, none⟩ (.int .u32 (y2 : Nat))).setCell ⟨B, k, none⟩ (.int .u32 (y1 : Nat))).drew = W3 at *
                generalize swp s (k + 1) k = s2 at *
                obtain ⟨T, hT⟩ : ∃ T, fixDown lt a (k + 1) s2 = T := ⟨_, rfl⟩
                have FD : Hid (fixDown lt a (k + 1) s2 = T) := hT
                rw [hT] at TT
                clear hT
                obtain ⟨M, hM⟩ : ∃ M, k + 1 - a = M := ⟨_, rfl⟩
                have hMz : (k : Int) + 1 - (a : Int) = (M : Int) := by omega
                go_upto_if 61 with fail
                go_cut [9] from 13 to 132 (fun s9 wx => Aside (KB B w wx) ∧ Aside (UA wx B T r) ∧ Aside (T.size = n))
                case first =>
                  by_cases hM2 : 2 ≤ M
                  · have hM2z : (M : Int) ≥ 2 := by omega
                    have SH : Hid (shiftDown lt k s2 = T) := by
                      show _ = _
                      have := FD.out
                      unfold fixDown at this
                      rw [if_pos (by omega)] at this
                      exact this
                    clear FD TT
                    go_wp2
                    go_loopg [9] k (fun gg s9 wi => ∃ (j : Nat) (s : Array Nat), j ≤ k ∧ j ≤ gg ∧ s9 = .int .i64 j ∧ Aside (KB B w wi) ∧ Aside (UA wi B s r) ∧ Aside (s.size = n) ∧ Aside (shiftDown lt j s = T))
                    case atStart => exact ⟨k, s2, Nat.le_refl _, Nat.le_refl _, by go_num, B4.out, USW.out, SSW.out, SH.out⟩
                    case round =>
                      clear B4 USW SSW SH hMz
                      obtain ⟨j, s, hjk, hjg, rfl, B5, U5, S5, T5⟩ := hrel
                      by_cases hj : 1 ≤ j
                      · obtain ⟨q, rfl⟩ : ∃ q, j = q + 1 := ⟨j - 1, by omega⟩
                        have hjz : (q : Int) + 1 ≥ 1 := by omega
                        have e1 := U5.out.cell (i := q + 1) (by rw [S5.out]; omega)
                        have e2 := U5.out.cell (i := q) (by rw [S5.out]; omega)
                        have b1 : (q : Int) + 1 < (n : Int) := by omega
                        have b2 : (q : Int) < (n : Int) := by omega
                        have hc : Hid (∀ m9, Calls Tryd.prog 40 #[.int .u32 (s[q + 1]! : Nat), .int .u32 (s[q]! : Nat)] (wr.drewN m9) fun e w' => e = .returned (.bool (lt s[q + 1]! s[q]!)) ∧ ∃ m, w' = (wr.drewN m9).drewN m) := fun _ => LS.out _ _ _
                        have NO : Hid (lt s[q + 1]! s[q]! = false → s = T) := fun h => by
                          have := T5.out
                          rw [shiftDown_stop h] at this
                          exact this
                        have YES : Hid (lt s[q + 1]! s[q]! = true → shiftDown lt q (swp s (q + 1) q) = T) := fun h => by
                          have := T5.out
                          rw [shiftDown_go h] at this
                          exact this
                        obtain ⟨x1, hx1⟩ : ∃ x1, s[q + 1]! = x1 := ⟨_, rfl⟩
                        obtain ⟨x2, hx2⟩ : ∃ x2, s[q]! = x2 := ⟨_, rfl⟩
                        rw [hx1] at e1 hc NO YES
                        rw [hx2] at e2 hc NO YES
                        have XX : Hid (s[q + 1]! = x1 ∧ s[q]! = x2) := ⟨hx1, hx2⟩
                        clear hx1 hx2
                        cases hl : lt x1 x2
                        · rw [hl] at hc
                          have TT : Hid (s = T) := NO.out hl
                          clear hl NO YES
                          go_wp2
                          go_quiet ((go_at_call 40; exact Calls.quiet_of (hc.out _)))
                          go_wp2
                          go_meet
                          case rel => exact ⟨B5.out.trans (KB.of_ext (Qt.ext ⟨_, rfl⟩)), by rw [← TT.out]; exact U5.out.ext (Qt.ext ⟨_, rfl⟩), by rw [← TT.out]; exact S5.out⟩
                        · rw [hl] at hc
                          have TT : Hid (shiftDown lt q (swp s (q + 1) q) = T) := YES.out hl
                          clear hl NO YES
                          go_wp2
                          go_quiet ((go_at_call 40; exact Calls.quiet_of (hc.out _)))
                          go_wp2
                          have B9 : Aside (KB B w (wr.drewN nq)) := B5.out.trans (KB.of_ext (Qt.ext ⟨_, rfl⟩))
                          have U9 : UA (wr.drewN nq) B s r := U5.out.ext (Qt.ext ⟨_, rfl⟩)
                          clear e1 e2 U5 B5
                          generalize wr.drewN nq = W9 at *
                          obtain ⟨y1, y2, y3, e1, e2, f1, f2, e4, f4, USW, SSW, KSW⟩ := ua_ready U9 S5.out (q + 1) q (by omega) (by omega)
                          clear U9 XX
                          go_region
                          have B4 : Hid (KB B w (((W9.setCell ⟨B, q + 1, none⟩ (.int .u32 (y2 : Nat))).setCell ⟨B, q, none⟩ (.int .u32 (y1 : Nat))).drew)) := B9.out.trans KSW.out
                          clear B9 KSW e1 e2 f1 f2 e4 f4
                          generalize ((W9.setCell ⟨B, q + 1, none⟩ (.int .u32 (y2 : Nat))).setCell ⟨B, q, none⟩ (.int .u32 (y1 : Nat))).drew = W3 at *
                          generalize swp s (q + 1) q = s2 at *
                          go_wp2
                          go_roundg q
                          case measure => omega
                          case rel => exact ⟨q, s2, by omega, by omega, by go_num, B4.out, USW.out, SSW.out, TT.out⟩
                      · obtain rfl : j = 0 := by omega
                        have TT : Hid (s = T) := T5.out
                        go_wp2
                        go_meet
                        case rel => exact ⟨B5.out, by rw [← TT.out]; exact U5.out, by rw [← TT.out]; exact S5.out⟩

                  · have hM2z : ¬ (M : Int) ≥ 2 := by omega
                    have SH : Hid (s2 = T) := by
                      show _ = _
                      have := FD.out
                      unfold fixDown at this
                      rw [if_neg (by omega)] at this
                      exact this
                    clear FD TT
                    go_wp2
                    go_meet
                    case rel => exact ⟨B4.out, by rw [← SH.out]; exact USW.out, by rw [← SH.out]; exact SSW.out⟩
                case rest =>
                  obtain ⟨B6, U6, S6⟩ := hcut
                  clear B4 USW SSW FD hMz hM
                  obtain ⟨T2, hT2⟩ : ∃ T2, fixUp lt b (k + 1) T = T2 := ⟨_, rfl⟩
                  have FD : Hid (fixUp lt b (k + 1) T = T2) := hT2
                  rw [hT2] at TT
                  clear hT2
                  have B4 : Hid (KB B w wc) := B6.out
                  have USW : Hid (UA wc B T r) := U6.out
                  have SSW : Hid (T.size = n) := S6.out
                  clear B6 U6 S6
                  obtain ⟨M2, hM⟩ : ∃ M, b - (k + 1) = M := ⟨_, rfl⟩
                  have hMz : (b : Int) - ((k : Int) + 1) = (M2 : Int) := by omega
                  clear s2
                  generalize T = s2 at *
                  generalize T2 = T at *
                  have T4 : Hid (partialIns lt a b (5 - (t + 1)) (k + 1) T = R) := by
                    show _ = _
                    rw [show 5 - (t + 1) = 4 - t by omega]
                    exact TT.out
                  clear TT
                  by_cases hM2 : 2 ≤ M2
                  · have hM2z : (M2 : Int) ≥ 2 := by omega
                    have SH : Hid (shiftUp lt b (k + 2) s2 = T) := by
                      show _ = _
                      have := FD.out
                      unfold fixUp at this
                      rw [if_pos (by omega)] at this
                      exact this
                    clear FD
                    go_wp2
                    go_loopg [10] b (fun gg s10 wi => ∃ (j : Nat) (s : Array Nat), 1 ≤ j ∧ j ≤ b ∧ b - j ≤ gg ∧ s10 = .int .i64 j ∧ Aside (KB B w wi) ∧ Aside (UA wi B s r) ∧ Aside (s.size = n) ∧ Aside (shiftUp lt b j s = T))
                    case atStart => exact ⟨k + 2, s2, by omega, by omega, by omega, by go_num, B4.out, USW.out, SSW.out, SH.out⟩
                    case round =>
                      clear B4 USW SSW SH hMz
                      obtain ⟨j, s, hj1, hjk, hjg, rfl, B5, U5, S5, T5⟩ := hrel
                      by_cases hj : j < b
                      · obtain ⟨q, rfl⟩ : ∃ q, j = q + 1 := ⟨j - 1, by omega⟩
                        have hjz : (q : Int) + 1 < (b : Int) := by omega
                        have e1 := U5.out.cell (i := q + 1) (by rw [S5.out]; omega)
                        have e2 := U5.out.cell (i := q) (by rw [S5.out]; omega)
                        have b1 : (q : Int) + 1 < (n : Int) := by omega
                        have b2 : (q : Int) < (n : Int) := by omega
                        have hc : Hid (∀ m9, Calls Tryd.prog 40 #[.int .u32 (s[q + 1]! : Nat), .int .u32 (s[q]! : Nat)] (wr.drewN m9) fun e w' => e = .returned (.bool (lt s[q + 1]! s[q]!)) ∧ ∃ m, w' = (wr.drewN m9).drewN m) := fun _ => LS.out _ _ _
                        have NO : Hid (lt s[q + 1]! s[q]! = false → s = T) := fun h => by
                          have := T5.out
                          rw [shiftUp_stop hj h] at this
                          exact this
                        have YES : Hid (lt s[q + 1]! s[q]! = true → shiftUp lt b (q + 2) (swp s (q + 1) q) = T) := fun h => by
                          have := T5.out
                          rw [shiftUp_go hj h] at this
                          exact this
                        obtain ⟨x1, hx1⟩ : ∃ x1, s[q + 1]! = x1 := ⟨_, rfl⟩
                        obtain ⟨x2, hx2⟩ : ∃ x2, s[q]! = x2 := ⟨_, rfl⟩
                        rw [hx1] at e1 hc NO YES
                        rw [hx2] at e2 hc NO YES
                        have XX : Hid (s[q + 1]! = x1 ∧ s[q]! = x2) := ⟨hx1, hx2⟩
                        clear hx1 hx2
                        cases hl : lt x1 x2
                        · rw [hl] at hc
                          have TT : Hid (s = T) := NO.out hl
                          clear hl NO YES
                          go_wp2
                          go_quiet ((go_at_call 40; exact Calls.quiet_of (hc.out _)))
                          go_wp2
                          go_roundg (5 - (t + 1))
                          case measure => omega
                          case rel => exact ⟨k + 1, t + 1, T, by omega, by omega, by omega, by omega, by go_num, by go_num, B5.out.trans (KB.of_ext (Qt.ext ⟨_, rfl⟩)), by rw [← TT.out]; exact U5.out.ext (Qt.ext ⟨_, rfl⟩), by rw [← TT.out]; exact S5.out, T4.out⟩
                        · rw [hl] at hc
                          have TT : Hid (shiftUp lt b (q + 2) (swp s (q + 1) q) = T) := YES.out hl
                          clear hl NO YES
                          go_wp2
                          go_quiet ((go_at_call 40; exact Calls.quiet_of (hc.out _)))
                          go_wp2
                          have B9 : Aside (KB B w (wr.drewN nq)) := B5.out.trans (KB.of_ext (Qt.ext ⟨_, rfl⟩))
                          have U9 : UA (wr.drewN nq) B s r := U5.out.ext (Qt.ext ⟨_, rfl⟩)
                          clear e1 e2 U5 B5
                          generalize wr.drewN nq = W9 at *
                          obtain ⟨y1, y2, y3, e1, e2, f1, f2, e4, f4, USW, SSW, KSW⟩ := ua_ready U9 S5.out (q + 1) q (by omega) (by omega)
                          clear U9 XX
                          go_region
                          have B4 : Hid (KB B w (((W9.setCell ⟨B, q + 1, none⟩ (.int .u32 (y2 : Nat))).setCell ⟨B, q, none⟩ (.int .u32 (y1 : Nat))).drew)) := B9.out.trans KSW.out
                          clear B9 KSW e1 e2 f1 f2 e4 f4
                          generalize ((W9.setCell ⟨B, q + 1, none⟩ (.int .u32 (y2 : Nat))).setCell ⟨B, q, none⟩ (.int .u32 (y1 : Nat))).drew = W3 at *
                          generalize swp s (q + 1) q = s2 at *
                          go_wp2
                          go_roundg (b - (q + 2))
                          case measure => omega
                          case rel => exact ⟨q + 2, s2, by omega, by omega, by omega, by go_num, B4.out, USW.out, SSW.out, TT.out⟩
                      · have hjz : ¬ (j : Int) < (b : Int) := by omega
                        have TT : Hid (s = T) := by show _ = _; have := T5.out; rw [shiftUp_end hj] at this; exact this
                        go_wp2
                        go_roundg (5 - (t + 1))
                        case measure => omega
                        case rel => exact ⟨k + 1, t + 1, T, by omega, by omega, by omega, by omega, by go_num, by go_num, B5.out, by rw [← TT.out]; exact U5.out, by rw [← TT.out]; exact S5.out, T4.out⟩

                  · have hM2z : ¬ (M2 : Int) ≥ 2 := by omega
                    have SH : Hid (s2 = T) := by
                      show _ = _
                      have := FD.out
                      unfold fixUp at this
                      rw [if_neg (by omega)] at this
                      exact this
                    clear FD
                    go_wp2
                    go_roundg (5 - (t + 1))
                    case measure => omega
                    case rel => exact ⟨k + 1, t + 1, T, by omega, by omega, by omega, by omega, by go_num, by go_num, B4.out, by rw [← SH.out]; exact USW.out, by rw [← SH.out]; exact SSW.out, T4.out⟩
    · have ht5z : ¬ (t : Int) < 5 := by omega
      rw [show 5 - t = 0 by omega] at TR0
      have TT : Hid (R = (s, false)) := TR0.symm
      clear TR0
      go_wp2
      go_ret
      exact ⟨by rw [TT.out]; rfl, by rw [TT.out]; exact U.out, by rw [TT.out]; exact SZ.out, BK.out⟩

end Go.Proofs.YtdfjjjcaibadoabDoor
