/-
  slices.partitionOrdered of words.
-/
import Derived.Test.YtdfjjjcaibadoabDoorSc
import Derived.Deep.DeepCutAuto
import Derived.Deep.CutRange
namespace Go.Proofs.YtdfjjjcaibadoabDoor
open Go.RowKit Go.Sort

set_option maxRecDepth 100000 in
set_option maxHeartbeats 8000000 in
theorem part_any (B c n a b p : Nat) (d : Array Nat) (r : List Value) (w : World) (hr : UA w B d r) (hn : d.size = n) (hn2 : n ≤ 1000) (hap : a ≤ p) (hpb : p < b) (hb : b ≤ n) :
    Calls Tryd.prog 42 #[.slice (some ⟨B, 0, none⟩) n c, .int .i64 a, .int .i64 b, .int .i64 p] w
      fun e w' => ∃ (m : Nat) (t : Bool) (s : Array Nat), e = .returned (.tuple #[.int .i64 (m : Nat), .bool t]) ∧ Hid (partition lt d a b p = (m, t, s)) ∧ Hid (UA w' B s r) ∧ Hid (s.size = n) ∧ Hid (KB B w w') := by
  have LS : Hid (∀ W x y, Calls Tryd.prog 40 #[.int .u32 (x : Nat), .int .u32 (y : Nat)] W fun e w' => e = .returned (.bool (lt x y)) ∧ ∃ m, w' = W.drewN m) := fun W x y => less_any x y W
  obtain ⟨x1, x2, x3, e1, e2, f1, f2, e4, f4, U, SZ, BK⟩ := ua_ready hr hn a p (by omega) (by omega)
  have RR0 : partition lt d a b p = (if scanUp (fun y => lt y (swp d a p)[a]!) (swp d a p) (b - 1) (a + 1) > scanDown (fun y => !lt y (swp d a p)[a]!) (swp d a p) (scanUp (fun y => lt y (swp d a p)[a]!) (swp d a p) (b - 1) (a + 1)) (b - 1)
      then (scanDown (fun y => !lt y (swp d a p)[a]!) (swp d a p) (scanUp (fun y => lt y (swp d a p)[a]!) (swp d a p) (b - 1) (a + 1)) (b - 1), true, swp (swp d a p) (scanDown (fun y => !lt y (swp d a p)[a]!) (swp d a p) (scanUp (fun y => lt y (swp d a p)[a]!) (swp d a p) (b - 1) (a + 1)) (b - 1)) a)
      else ((partLoop lt a (scanUp (fun y => lt y (swp d a p)[a]!) (swp d a p) (b - 1) (a + 1) + 1) (scanDown (fun y => !lt y (swp d a p)[a]!) (swp d a p) (scanUp (fun y => lt y (swp d a p)[a]!) (swp d a p) (b - 1) (a + 1)) (b - 1) - 1) (swp (swp d a p) (scanUp (fun y => lt y (swp d a p)[a]!) (swp d a p) (b - 1) (a + 1)) (scanDown (fun y => !lt y (swp d a p)[a]!) (swp d a p) (scanUp (fun y => lt y (swp d a p)[a]!) (swp d a p) (b - 1) (a + 1)) (b - 1)))).1, false,
        swp (partLoop lt a (scanUp (fun y => lt y (swp d a p)[a]!) (swp d a p) (b - 1) (a + 1) + 1) (scanDown (fun y => !lt y (swp d a p)[a]!) (swp d a p) (scanUp (fun y => lt y (swp d a p)[a]!) (swp d a p) (b - 1) (a + 1)) (b - 1) - 1) (swp (swp d a p) (scanUp (fun y => lt y (swp d a p)[a]!) (swp d a p) (b - 1) (a + 1)) (scanDown (fun y => !lt y (swp d a p)[a]!) (swp d a p) (scanUp (fun y => lt y (swp d a p)[a]!) (swp d a p) (b - 1) (a + 1)) (b - 1)))).2
          (partLoop lt a (scanUp (fun y => lt y (swp d a p)[a]!) (swp d a p) (b - 1) (a + 1) + 1) (scanDown (fun y => !lt y (swp d a p)[a]!) (swp d a p) (scanUp (fun y => lt y (swp d a p)[a]!) (swp d a p) (b - 1) (a + 1)) (b - 1) - 1) (swp (swp d a p) (scanUp (fun y => lt y (swp d a p)[a]!) (swp d a p) (b - 1) (a + 1)) (scanDown (fun y => !lt y (swp d a p)[a]!) (swp d a p) (scanUp (fun y => lt y (swp d a p)[a]!) (swp d a p) (b - 1) (a + 1)) (b - 1)))).1 a)) := rfl
  generalize partition lt d a b p = R at *
  generalize swp d a p = s at *
  have HI1 := scanUp_ge (fun y => lt y s[a]!) s (b - 1) (a + 1)
  have HI2 : scanUp (fun y => lt y s[a]!) s (b - 1) (a + 1) ≤ n := scanUp_le (by omega) (by omega)
  have HI3 : scanUp (fun y => lt y s[a]!) s (b - 1) (a + 1) ≤ b - 1 + 1 := (scanUp_spec _ s (b - 1) _ (a + 1) rfl).2.1 (by omega)
  have HJ1 := scanDown_le (fun y => !lt y s[a]!) s (scanUp (fun y => lt y s[a]!) s (b - 1) (a + 1)) (b - 1)
  have HJ2 := scanDown_ge (p := fun y => !lt y s[a]!) (d := s) HI3
  obtain ⟨x, hx⟩ : ∃ x, s[a]! = x := ⟨_, rfl⟩
  have HX : Hid (s[a]! = x) := hx
  rw [hx] at RR0 HI1 HI2 HI3 HJ1 HJ2
  obtain ⟨i0, hi0⟩ : ∃ i0, a + 1 = i0 := ⟨_, rfl⟩
  obtain ⟨j0, hj0⟩ : ∃ j0, b - 1 = j0 := ⟨_, rfl⟩
  have hi0z : (a : Int) + 1 = (i0 : Int) := by omega
  have hj0z : (b : Int) - 1 = (j0 : Int) := by omega
  rw [hi0, hj0] at RR0 HI1 HI2 HI3 HJ1 HJ2
  obtain ⟨I, hI⟩ : ∃ I, scanUp (fun y => lt y x) s j0 i0 = I := ⟨_, rfl⟩
  have SCU : Hid (scanUp (fun y => lt y x) s j0 i0 = I) := hI
  rw [hI] at RR0 HI1 HI2 HI3 HJ1 HJ2
  obtain ⟨J, hJ⟩ : ∃ J, scanDown (fun y => !lt y x) s I j0 = J := ⟨_, rfl⟩
  have SCD0 : Hid (scanDown (fun y => !lt y x) s I j0 = J) := hJ
  rw [hJ] at RR0 HJ1 HJ2
  have b1 : (a : Int) < (n : Int) := by omega
  have b2 : (p : Int) < (n : Int) := by omega
  have RR0' : Hid (R = _) := RR0
  have hj0b : j0 < b := by omega
  have hi0a : a + 1 ≤ i0 := by omega
  clear RR0 hx hI hJ hr hn hi0 hj0
  have RR0 := RR0'
  clear RR0'
  go_enter Tryd.func42, Tryd.ntmps42
  go_wp2
  go_region
  clear e1 e2 f1 f2 e4 f4
  generalize ((w.setCell ⟨B, a, none⟩ (.int .u32 (x2 : Nat))).setCell ⟨B, p, none⟩ (.int .u32 (x1 : Nat))).drew = W1 at *
  go_wp2
  clear hi0z hj0z
  go_loopg [10] n (fun gg s10 wi => ∃ i : Nat, i0 ≤ i ∧ i ≤ n ∧ n - i ≤ gg ∧ s10 = .int .i64 i ∧ Aside (KB B w wi) ∧ Aside (UA wi B s r) ∧ Aside (scanUp (fun y => (lt y x)) s j0 i = I))
  case atStart => exact ⟨i0, Nat.le_refl _, by omega, by omega, by go_num, BK.out, U.out, SCU.out⟩
  case round =>
    obtain ⟨i, hi0, hin, hgi, rfl, BW, UW, SC⟩ := hrel
    clear BK U SCU
    go_upto_region 3 with fail
    go_cut [43] from 30 to 45 (fun sx wx => sx = .bool (decide (i ≤ j0 ∧ (lt s[i]! x) = true)) ∧ Aside (KB B w wx) ∧ Aside (UA wx B s r))
    case first =>
      by_cases hij : i ≤ j0
      · have hijz : (i : Int) ≤ (j0 : Int) := by omega
        have e1 := UW.out.cell (i := i) (by rw [SZ.out]; omega)
        have e2 := UW.out.cell (i := a) (by rw [SZ.out]; omega)
        rw [HX.out] at e2
        have b1 : (i : Int) < (n : Int) := by omega
        have b2 : (a : Int) < (n : Int) := by omega
        have hc : Hid (∀ q, Calls Tryd.prog 40 #[.int .u32 (s[i]! : Nat), .int .u32 (x : Nat)] (wr.drewN q) fun e w' => e = .returned (.bool (lt s[i]! x)) ∧ ∃ m, w' = (wr.drewN q).drewN m) := fun q => LS.out _ _ _
        generalize s[i]! = y at *
        clear SC
        cases hl : lt y x
        all_goals
          rw [hl] at hc
          have HL : Hid (lt y x = _) := hl
          clear hl
          go_wp2
          go_quiet ((go_at_call 40; exact Calls.quiet_of (hc.out _)))
          go_wp2
          go_meet
          case rel => exact ⟨congrArg Value.bool (by simp [hij, HL.out]), BW.out.trans (KB.of_ext (Qt.ext ⟨_, rfl⟩)), UW.out.ext (Qt.ext ⟨_, rfl⟩)⟩
      · have hijz : ¬ (i : Int) ≤ (j0 : Int) := by omega
        go_wp2
        go_quiet (fail)
        go_wp2
        go_meet
        case rel => exact ⟨congrArg Value.bool (by simp [hij]), BW.out.trans (KB.of_ext (Qt.ext ⟨_, rfl⟩)), UW.out.ext (Qt.ext ⟨_, rfl⟩)⟩
    case rest =>
      obtain ⟨rfl, B2, U2⟩ := hcut
      by_cases hg : i ≤ j0 ∧ (lt s[i]! x) = true
      · have hd := decide_eq_true hg
        have S2 : Hid (scanUp (fun y => (lt y x)) s j0 (i + 1) = I) := by show _ = _; rw [← scanUp_go (p := (fun y => (lt y x))) hg]; exact SC.out
        have hlt : i < n := by omega
        rw [hd]
        clear hd hg SC BW UW
        go_wp2
        go_roundg (n - (i + 1))
        case measure => omega
        case rel => exact ⟨i + 1, by omega, by omega, by omega, by go_num, B2.out, U2.out, S2.out⟩
      · have hd := decide_eq_false hg
        have S2 : i = I := by rw [← SC.out]; exact (scanUp_stop (p := (fun y => (lt y x))) hg).symm
        rw [hd]
        clear hd hg SC BW UW hgi
        subst S2
        have SCD : Hid (scanDown (fun y => !lt y x) s i j0 = J) := SCD0.out
        have BK : Hid (KB B w wc) := B2.out
        have U : Hid (UA wc B s r) := U2.out
        clear SCD0 B2 U2
        go_wp2
        go_loopg [11] n (fun gg s11 wi => ∃ j : Nat, j ≤ j0 ∧ j ≤ gg ∧ s11 = .int .i64 j ∧ Aside (KB B w wi) ∧ Aside (UA wi B s r) ∧ Aside (scanDown (fun y => (!lt y x)) s i j = J))
        case atStart => exact ⟨j0, Nat.le_refl _, by omega, by go_num, BK.out, U.out, SCD.out⟩
        case round =>
          obtain ⟨j, hj0, hgj, rfl, BW, UW, SC⟩ := hrel
          clear BK U SCD
          go_upto_region 5 with fail
          go_cut [60] from 46 to 62 (fun sx wx => sx = .bool (decide (i ≤ j ∧ (!lt s[j]! x) = true)) ∧ Aside (KB B w wx) ∧ Aside (UA wx B s r))
          case first =>
            by_cases hij : i ≤ j
            · have hijz : (i : Int) ≤ (j : Int) := by omega
              have e1 := UW.out.cell (i := j) (by rw [SZ.out]; omega)
              have e2 := UW.out.cell (i := a) (by rw [SZ.out]; omega)
              rw [HX.out] at e2
              have b1 : (j : Int) < (n : Int) := by omega
              have b2 : (a : Int) < (n : Int) := by omega
              have hc : Hid (∀ q, Calls Tryd.prog 40 #[.int .u32 (s[j]! : Nat), .int .u32 (x : Nat)] (wr.drewN q) fun e w' => e = .returned (.bool (lt s[j]! x)) ∧ ∃ m, w' = (wr.drewN q).drewN m) := fun q => LS.out _ _ _
              generalize s[j]! = y at *
              clear SC
              cases hl : lt y x
              all_goals
                rw [hl] at hc
                have HL : Hid (lt y x = _) := hl
                clear hl
                go_wp2
                go_quiet ((go_at_call 40; exact Calls.quiet_of (hc.out _)))
                go_wp2
                go_meet
                case rel => exact ⟨congrArg Value.bool (by simp [hij, HL.out]), BW.out.trans (KB.of_ext (Qt.ext ⟨_, rfl⟩)), UW.out.ext (Qt.ext ⟨_, rfl⟩)⟩
            · have hijz : ¬ (i : Int) ≤ (j : Int) := by omega
              go_wp2
              go_quiet (fail)
              go_wp2
              go_meet
              case rel => exact ⟨congrArg Value.bool (by simp [hij]), BW.out.trans (KB.of_ext (Qt.ext ⟨_, rfl⟩)), UW.out.ext (Qt.ext ⟨_, rfl⟩)⟩
          case rest =>
            obtain ⟨rfl, B2, U2⟩ := hcut
            by_cases hg : i ≤ j ∧ (!lt s[j]! x) = true
            · have hd := decide_eq_true hg
              have hlt := hg.1
              obtain ⟨k, rfl⟩ : ∃ k, j = k + 1 := ⟨j - 1, by omega⟩
              have S2 : Hid (scanDown (fun y => (!lt y x)) s i k = J) := by show _ = _; rw [← scanDown_go (p := (fun y => (!lt y x))) hg]; exact SC.out
              rw [hd]
              clear hd hg SC BW UW
              go_wp2
              go_roundg k
              case measure => omega
              case rel => exact ⟨k, by omega, by omega, by go_num, B2.out, U2.out, S2.out⟩
            · have hd := decide_eq_false hg
              have S2 : j = J := by rw [← SC.out]; exact (scanDown_stop (p := (fun y => (!lt y x))) hg).symm
              rw [hd]
              clear hd hg SC BW UW hgj
              subst S2
              by_cases hij : i > j
              · have hgt : (i : Int) > (j : Int) := by omega
                obtain ⟨x1, x2, x3, e1, e2, f1, f2, e4, f4, USW, SSW, KSW⟩ := ua_ready U2.out SZ.out j a (by omega) (by omega)
                have b1 : (j : Int) < (n : Int) := by omega
                have b2 : (a : Int) < (n : Int) := by omega
                have TT : Hid (R = (j, true, swp s j a)) := by show _ = _; have := RR0.out; rw [if_pos hij] at this; exact this
                have B3 := B2.out
                have B3' : Hid (KB B w wc) := B3
                clear B3 B2 U2 HX
                go_wp2
                go_region
                have B4 : Hid (KB B w (((wc.setCell ⟨B, j, none⟩ (.int .u32 (x2 : Nat))).setCell ⟨B, a, none⟩ (.int .u32 (x1 : Nat))).drew)) := B3'.out.trans KSW.out
                clear B3' KSW e1 e2 f1 f2 e4 f4
                generalize ((wc.setCell ⟨B, j, none⟩ (.int .u32 (x2 : Nat))).setCell ⟨B, a, none⟩ (.int .u32 (x1 : Nat))).drew = W3 at *
                go_wp2
                go_ret2
                exact ⟨j, _, _, rfl, TT.out, USW.out, SSW.out, B4.out⟩
              · have hgt : ¬ (i : Int) > (j : Int) := by omega
                obtain ⟨x1, x2, x3, e1, e2, f1, f2, e4, f4, USW, SSW, KSW⟩ := ua_ready U2.out SZ.out i j (by omega) (by omega)
                have b1 : (i : Int) < (n : Int) := by omega
                have b2 : (j : Int) < (n : Int) := by omega
                have RR1 : Hid (R = ((partLoop lt a (i + 1) (j - 1) (swp s i j)).1, false, swp (partLoop lt a (i + 1) (j - 1) (swp s i j)).2 (partLoop lt a (i + 1) (j - 1) (swp s i j)).1 a)) := by show _ = _; have := RR0.out; rw [if_neg hij] at this; exact this
                have B3' : Hid (KB B w wc) := B2.out
                obtain ⟨k, rfl⟩ : ∃ k, j = k + 1 := ⟨j - 1, by omega⟩
                rw [show k + 1 - 1 = k by omega] at RR1
                clear B2 U2 HX
                go_wp2
                go_region
                have B4 : Hid (KB B w (((wc.setCell ⟨B, i, none⟩ (.int .u32 (x2 : Nat))).setCell ⟨B, k + 1, none⟩ (.int .u32 (x1 : Nat))).drew)) := B3'.out.trans KSW.out
                clear B3' KSW e1 e2 f1 f2 e4 f4
                generalize ((wc.setCell ⟨B, i, none⟩ (.int .u32 (x2 : Nat))).setCell ⟨B, k + 1, none⟩ (.int .u32 (x1 : Nat))).drew = W3 at *
                generalize swp s i (k + 1) = s2 at *
                obtain ⟨RL, hRL⟩ : ∃ RL, partLoop lt a (i + 1) k s2 = RL := ⟨_, rfl⟩
                rw [hRL] at RR1
                have TT : Hid (partLoop lt a (i + 1) k s2 = RL) := hRL
                have RR : Hid (R = (RL.1, false, swp RL.2 RL.1 a)) := RR1.out
                clear RR1 RR0 hRL
                go_wp2
                go_loopg [10, 11] n (fun gg s10 s11 wi => ∃ (i j : Nat) (s : Array Nat), a + 1 ≤ i ∧ i ≤ n ∧ j < b ∧ j + 1 - i ≤ gg ∧ s10 = .int .i64 i ∧ s11 = .int .i64 j ∧ Aside (KB B w wi) ∧ Aside (UA wi B s r) ∧ Aside (s.size = n) ∧ Aside (partLoop lt a i j s = RL))
                case atStart => exact ⟨i + 1, k, s2, by omega, by omega, by omega, by omega, by go_num, by go_num, B4.out, USW.out, SSW.out, TT.out⟩
                case round =>
                  clear B4 USW SSW TT
                  obtain ⟨i0, j0, s, hi1, hi2, hj1, hgg, rfl, rfl, BW, UW, SZ', TR'⟩ := hrel
                  have BK : Hid (KB B w wr) := BW.out
                  have U : Hid (UA wr B s r) := UW.out
                  have SZ : Hid (s.size = n) := SZ'.out
                  have TR := TR'.out
                  rw [partLoop_eq] at TR
                  have HI1 := scanUp_ge (fun y => lt y s[a]!) s j0 i0
                  have HI2 : scanUp (fun y => lt y s[a]!) s j0 i0 ≤ n := scanUp_le (by omega) (by omega)
                  have HJ1 := scanDown_le (fun y => !lt y s[a]!) s (scanUp (fun y => lt y s[a]!) s j0 i0) j0
                  obtain ⟨x, hx⟩ : ∃ x, s[a]! = x := ⟨_, rfl⟩
                  have HX : Hid (s[a]! = x) := hx
                  rw [hx] at TR HI1 HI2 HJ1
                  obtain ⟨I, hI⟩ : ∃ I, scanUp (fun y => lt y x) s j0 i0 = I := ⟨_, rfl⟩
                  have SCU : Hid (scanUp (fun y => lt y x) s j0 i0 = I) := hI
                  rw [hI] at TR HI1 HI2 HJ1
                  obtain ⟨J, hJ⟩ : ∃ J, scanDown (fun y => !lt y x) s I j0 = J := ⟨_, rfl⟩
                  have SCD0 : Hid (scanDown (fun y => !lt y x) s I j0 = J) := hJ
                  rw [hJ] at TR HJ1
                  have TR2 : Hid ((if I > J then (J, s) else partLoop lt a (I + 1) (J - 1) (swp s I J)) = RL) := TR
                  clear TR TR' hx hI hJ BW UW SZ'
                  go_wp2
                  go_loopg [10] n (fun gg s10 wi => ∃ i : Nat, i0 ≤ i ∧ i ≤ n ∧ n - i ≤ gg ∧ s10 = .int .i64 i ∧ Aside (KB B w wi) ∧ Aside (UA wi B s r) ∧ Aside (scanUp (fun y => (lt y x)) s j0 i = I))
                  case atStart => exact ⟨i0, Nat.le_refl _, by omega, by omega, by go_num, BK.out, U.out, SCU.out⟩
                  case round =>
                    obtain ⟨i, hi0, hin, hgi, rfl, BW, UW, SC⟩ := hrel
                    clear BK U SCU
                    go_upto_region 13 with fail
                    go_cut [112] from 99 to 114 (fun sx wx => sx = .bool (decide (i ≤ j0 ∧ (lt s[i]! x) = true)) ∧ Aside (KB B w wx) ∧ Aside (UA wx B s r))
                    case first =>
                      by_cases hij : i ≤ j0
                      · have hijz : (i : Int) ≤ (j0 : Int) := by omega
                        have e1 := UW.out.cell (i := i) (by rw [SZ.out]; omega)
                        have e2 := UW.out.cell (i := a) (by rw [SZ.out]; omega)
                        rw [HX.out] at e2
                        have b1 : (i : Int) < (n : Int) := by omega
                        have b2 : (a : Int) < (n : Int) := by omega
                        have hc : Hid (∀ q, Calls Tryd.prog 40 #[.int .u32 (s[i]! : Nat), .int .u32 (x : Nat)] (wr.drewN q) fun e w' => e = .returned (.bool (lt s[i]! x)) ∧ ∃ m, w' = (wr.drewN q).drewN m) := fun q => LS.out _ _ _
                        generalize s[i]! = y at *
                        clear SC
                        cases hl : lt y x
                        all_goals
                          rw [hl] at hc
                          have HL : Hid (lt y x = _) := hl
                          clear hl
                          go_wp2
                          go_quiet ((go_at_call 40; exact Calls.quiet_of (hc.out _)))
                          go_wp2
                          go_meet
                          case rel => exact ⟨congrArg Value.bool (by simp [hij, HL.out]), BW.out.trans (KB.of_ext (Qt.ext ⟨_, rfl⟩)), UW.out.ext (Qt.ext ⟨_, rfl⟩)⟩
                      · have hijz : ¬ (i : Int) ≤ (j0 : Int) := by omega
                        go_wp2
                        go_quiet (fail)
                        go_wp2
                        go_meet
                        case rel => exact ⟨congrArg Value.bool (by simp [hij]), BW.out.trans (KB.of_ext (Qt.ext ⟨_, rfl⟩)), UW.out.ext (Qt.ext ⟨_, rfl⟩)⟩
                    case rest =>
                      obtain ⟨rfl, B2, U2⟩ := hcut
                      by_cases hg : i ≤ j0 ∧ (lt s[i]! x) = true
                      · have hd := decide_eq_true hg
                        have S2 : Hid (scanUp (fun y => (lt y x)) s j0 (i + 1) = I) := by show _ = _; rw [← scanUp_go (p := (fun y => (lt y x))) hg]; exact SC.out
                        have hlt : i < n := by omega
                        rw [hd]
                        clear hd hg SC BW UW
                        go_wp2
                        go_roundg (n - (i + 1))
                        case measure => omega
                        case rel => exact ⟨i + 1, by omega, by omega, by omega, by go_num, B2.out, U2.out, S2.out⟩
                      · have hd := decide_eq_false hg
                        have S2 : i = I := by rw [← SC.out]; exact (scanUp_stop (p := (fun y => (lt y x))) hg).symm
                        rw [hd]
                        clear hd hg SC BW UW hgi
                        subst S2
                        have SCD : Hid (scanDown (fun y => !lt y x) s i j0 = J) := SCD0.out
                        have BK : Hid (KB B w wc) := B2.out
                        have U : Hid (UA wc B s r) := U2.out
                        clear SCD0 B2 U2
                        go_wp2
                        go_loopg [11] n (fun gg s11 wi => ∃ j : Nat, j ≤ j0 ∧ j ≤ gg ∧ s11 = .int .i64 j ∧ Aside (KB B w wi) ∧ Aside (UA wi B s r) ∧ Aside (scanDown (fun y => (!lt y x)) s i j = J))
                        case atStart => exact ⟨j0, Nat.le_refl _, by omega, by go_num, BK.out, U.out, SCD.out⟩
                        case round =>
                          obtain ⟨j, hj0, hgj, rfl, BW, UW, SC⟩ := hrel
                          clear BK U SCD
                          go_upto_region 15 with fail
                          go_cut [129] from 115 to 131 (fun sx wx => sx = .bool (decide (i ≤ j ∧ (!lt s[j]! x) = true)) ∧ Aside (KB B w wx) ∧ Aside (UA wx B s r))
                          case first =>
                            by_cases hij : i ≤ j
                            · have hijz : (i : Int) ≤ (j : Int) := by omega
                              have e1 := UW.out.cell (i := j) (by rw [SZ.out]; omega)
                              have e2 := UW.out.cell (i := a) (by rw [SZ.out]; omega)
                              rw [HX.out] at e2
                              have b1 : (j : Int) < (n : Int) := by omega
                              have b2 : (a : Int) < (n : Int) := by omega
                              have hc : Hid (∀ q, Calls Tryd.prog 40 #[.int .u32 (s[j]! : Nat), .int .u32 (x : Nat)] (wr.drewN q) fun e w' => e = .returned (.bool (lt s[j]! x)) ∧ ∃ m, w' = (wr.drewN q).drewN m) := fun q => LS.out _ _ _
                              generalize s[j]! = y at *
                              clear SC
                              cases hl : lt y x
                              all_goals
                                rw [hl] at hc
                                have HL : Hid (lt y x = _) := hl
                                clear hl
                                go_wp2
                                go_quiet ((go_at_call 40; exact Calls.quiet_of (hc.out _)))
                                go_wp2
                                go_meet
                                case rel => exact ⟨congrArg Value.bool (by simp [hij, HL.out]), BW.out.trans (KB.of_ext (Qt.ext ⟨_, rfl⟩)), UW.out.ext (Qt.ext ⟨_, rfl⟩)⟩
                            · have hijz : ¬ (i : Int) ≤ (j : Int) := by omega
                              go_wp2
                              go_quiet (fail)
                              go_wp2
                              go_meet
                              case rel => exact ⟨congrArg Value.bool (by simp [hij]), BW.out.trans (KB.of_ext (Qt.ext ⟨_, rfl⟩)), UW.out.ext (Qt.ext ⟨_, rfl⟩)⟩
                          case rest =>
                            obtain ⟨rfl, B2, U2⟩ := hcut
                            by_cases hg : i ≤ j ∧ (!lt s[j]! x) = true
                            · have hd := decide_eq_true hg
                              have hlt := hg.1
                              obtain ⟨k, rfl⟩ : ∃ k, j = k + 1 := ⟨j - 1, by omega⟩
                              have S2 : Hid (scanDown (fun y => (!lt y x)) s i k = J) := by show _ = _; rw [← scanDown_go (p := (fun y => (!lt y x))) hg]; exact SC.out
                              rw [hd]
                              clear hd hg SC BW UW
                              go_wp2
                              go_roundg k
                              case measure => omega
                              case rel => exact ⟨k, by omega, by omega, by go_num, B2.out, U2.out, S2.out⟩
                            · have hd := decide_eq_false hg
                              have S2 : j = J := by rw [← SC.out]; exact (scanDown_stop (p := (fun y => (!lt y x))) hg).symm
                              rw [hd]
                              clear hd hg SC BW UW hgj
                              subst S2
                              have TR := TR2
                              clear TR2
                              by_cases hij : i > j
                              · have hgt : (i : Int) > (j : Int) := by omega
                                obtain ⟨x1, x2, x3, e1, e2, f1, f2, e4, f4, USW, SSW, KSW⟩ := ua_ready U2.out SZ.out j a (by omega) (by omega)
                                have b1 : (j : Int) < (n : Int) := by omega
                                have b2 : (a : Int) < (n : Int) := by omega
                                have TT : Hid (R = (j, false, swp s j a)) := by show _ = _; have := TR.out; rw [if_pos hij] at this; rw [RR.out, ← this]
                                have B3 := B2.out
                                have B3' : Hid (KB B w wc) := B3
                                clear B3 B2 U2 HX
                                go_wp2
                                go_region
                                have B4 : Hid (KB B w (((wc.setCell ⟨B, j, none⟩ (.int .u32 (x2 : Nat))).setCell ⟨B, a, none⟩ (.int .u32 (x1 : Nat))).drew)) := B3'.out.trans KSW.out
                                clear B3' KSW e1 e2 f1 f2 e4 f4
                                generalize ((wc.setCell ⟨B, j, none⟩ (.int .u32 (x2 : Nat))).setCell ⟨B, a, none⟩ (.int .u32 (x1 : Nat))).drew = W3 at *
                                go_wp2
                                go_ret2
                                exact ⟨j, _, _, rfl, TT.out, USW.out, SSW.out, B4.out⟩
                              · have hgt : ¬ (i : Int) > (j : Int) := by omega
                                obtain ⟨x1, x2, x3, e1, e2, f1, f2, e4, f4, USW, SSW, KSW⟩ := ua_ready U2.out SZ.out i j (by omega) (by omega)
                                have b1 : (i : Int) < (n : Int) := by omega
                                have b2 : (j : Int) < (n : Int) := by omega
                                have TT : Hid (partLoop lt a (i + 1) (j - 1) (swp s i j) = RL) := by show _ = _; have := TR.out; rw [if_neg hij] at this; exact this
                                have B3' : Hid (KB B w wc) := B2.out
                                obtain ⟨k, rfl⟩ : ∃ k, j = k + 1 := ⟨j - 1, by omega⟩
                                rw [show k + 1 - 1 = k by omega] at TT
                                clear B2 U2 HX
                                go_wp2
                                go_region
                                have B4 : Hid (KB B w (((wc.setCell ⟨B, i, none⟩ (.int .u32 (x2 : Nat))).setCell ⟨B, k + 1, none⟩ (.int .u32 (x1 : Nat))).drew)) := B3'.out.trans KSW.out
                                clear B3' KSW e1 e2 f1 f2 e4 f4
                                generalize ((wc.setCell ⟨B, i, none⟩ (.int .u32 (x2 : Nat))).setCell ⟨B, k + 1, none⟩ (.int .u32 (x1 : Nat))).drew = W3 at *
                                generalize swp s i (k + 1) = s2 at *
                                go_wp2
                                go_roundg (k + 1 - (i + 1))
                                case measure => omega
                                case rel => exact ⟨i + 1, k, s2, by omega, by omega, by omega, by omega, by go_num, by go_num, B4.out, USW.out, SSW.out, TT.out⟩

end Go.Proofs.YtdfjjjcaibadoabDoor
