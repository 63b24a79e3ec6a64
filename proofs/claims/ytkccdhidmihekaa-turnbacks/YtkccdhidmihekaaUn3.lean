/-
  quipuref.Unturned, walked.
-/
import Derived.Test.YtkccdhidmihekaaUn2
namespace Go.Proofs.Ytkccdhidmihekaa
open Go.RowKit

theorem owned_one (w : World) (y : Int) (o : Nat) (ho : o = w.heap.size) : OwnB w (w.alloc (.cells #[.int .u8 y] 5)) (.slice (some ⟨o, 0, none⟩) 1 1) [y] := by
  subst ho
  exact ⟨(Ext.refl w).alloc _, by simp, .inr ⟨w.heap.size, 1, #[.int .u8 y], rfl, Nat.le_refl _, heap_alloc_new w _, by simp, by simp [maxLen], by simp, by simp⟩⟩

set_option maxRecDepth 100000 in
set_option maxHeartbeats 8000000 in
theorem unturned_in (x : Wd) (at_ : Nat) (w : World) (hx : Bits w x) (h : x.l.length ≤ 64) (hat : at_ < x.l.length) :
    Calls Try.prog 13 #[x.v, .int .i64 at_] w fun e w' => Ext w w' ∧ ∃ (y : Wd) (r : Bool), Bits w' y ∧ y.l = un x.l at_ ∧ e = .returned (.tuple #[y.v, .bool r]) ∧ (r = true ↔ Fits x.l (un x.l at_) at_) := by
  have HTD : Hid (∀ (y : Wd) (W : World), Bits W y → y.l = un x.l at_ → Calls Try.prog 10 #[y.v] W fun e w' => ∃ z : Wd, e = .returned (.tuple #[z.v, .int .i64 (rk (un x.l at_) 0 : Int)]) ∧ z.l = tl (un x.l at_) ∧ Bits w' z ∧ Ext W w') := by
    intro y W hy hyl
    have := turned_any y W hy (by rw [hyl, un_length hat]; exact h)
    rw [hyl] at this
    exact this
  have HEQ : Hid (∀ (z : Wd) (W : World), Bits W z → Ext w W → z.l = tl (un x.l at_) → Calls Try.prog 11 #[z.v, x.v] W fun e w' => e = .returned (.bool (tl (un x.l at_) == x.l)) ∧ ∃ m, w' = W.drewN m) := by
    intro z W hz hW hzl
    have := bytes_any z x W hz (hx.ext hW)
    rw [hzl] at this
    exact this
  have HAH : Hid (∀ (p q : Wd) W, Bits W p → Bits W q → p.l.length = q.l.length → Calls Try.prog 21 #[p.v, q.v] W fun e w' => e = .returned (.bool (ah p.l q.l)) ∧ ∃ m, w' = W.drewN m) := ahead_any
  obtain ⟨a, c, l⟩ := x
  obtain ⟨h1, h2, hz, b, o, h3, h4⟩ := hx
  simp only [Wd.v] at *
  unfold maxLen at h2
  obtain ⟨n, hn⟩ : ∃ n, l.length = n := ⟨_, rfl⟩
  have HN : Hid (l.length = n) := hn
  rw [hn] at h hat h1 h3 h4 HEQ ⊢
  obtain rfl := h3 (by omega)
  have H4 : Hid (∀ i, i < n → w.cell? ⟨b, o + i, none⟩ = some (.int .u8 (l.getD i 0))) := h4
  clear hn h4 hz h3
  have hn0 : ((n : Int) == 0) = false := beq_eq_false_iff_ne.2 (by omega)
  have ha1 : ¬ (at_ : Int) < 0 := by omega
  have ha2 : ¬ (at_ : Int) ≥ (n : Int) := by omega
  have hmk := run_make_row' (P := Try.prog) 45 22 (.slice none 0 0) 24 Try.underlying45 info22 rfl .i64 .i64 n (by omega) (by omega)
  obtain ⟨W0, hW0⟩ : ∃ W0, W0 = w.alloc (.cells (madeCells #[.slice none 0 0] n) 22) := ⟨_, rfl⟩
  have M0 : Hid (UR l w W0 w.heap.size 0) := by
    rw [hW0]
    refine ⟨List.replicate n ⟨none, 0, []⟩, ⟨(Ext.refl w).alloc _, Nat.le_refl _, ?_, ?_⟩, ?_⟩
    · have := Row.made w 22 (.slice none 0 0) n
      rw [List.map_replicate]
      exact this
    · intro x hx
      rw [List.mem_replicate] at hx
      rw [hx.2]
      exact LB.nil _
    · rw [urows, HN.out]
      simp
  go_enter Try.func13, Try.ntmps13
  go_wp2
  rw [← hW0]
  clear hW0 hmk
  obtain ⟨B, hB⟩ : ∃ B, w.heap.size = B := ⟨_, rfl⟩
  rw [hB] at M0 ⊢
  clear hB
  go_loopg [8, 9, 10, 11] n (fun gg s8 _ _ _ wr => ∃ k : Nat, k ≤ n ∧ n - k ≤ gg ∧ s8 = .int .i64 k ∧ Aside (UR l w wr B k))
  case atStart => exact ⟨0, by omega, by omega, rfl, M0.out⟩
  case round =>
    obtain ⟨k, hk, hgg, rfl, A⟩ := hrel
    clear M0
    by_cases hlt : k < n
    · have hltz : (k : Int) < (n : Int) := by omega
      have I0 : Hid (UI l w wr B k 0) := UI.start A.out
      clear A
      go_wp2
      go_loopg [9] n (fun gg s9 wr => ∃ i : Nat, i ≤ n ∧ n - i ≤ gg ∧ s9 = .int .i64 i ∧ Aside (UI l w wr B k i))
      case atStart => exact ⟨0, by omega, by omega, rfl, I0.out⟩
      case round =>
        obtain ⟨i, hi, hgg2, rfl, A⟩ := hrel
        clear I0
        by_cases hil : i < n
        · have hilz : (i : Int) < (n : Int) := by omega
          obtain ⟨y, cy, lby, yk, ⟨rl, hrow⟩, hBl, hE, hBw, nxt⟩ := A.out.row (by rw [HN.out]; exact hil)
          have e1 := hE.cell (H4.out i hil)
          have HNX : Hid (∀ (W : World) (z : Wd), Ext wr W → LB W z → z.l = l.getD i 0 :: y.l → UI l w (W.setCell ⟨B, i, none⟩ z.v) B k (i + 1)) := nxt
          have HLB : Hid (LB wr y) := lby
          have HBl : Hid (B < wr.heap.size) := hBl
          have HYK : Hid (y.l.length = k) := yk
          obtain ⟨ya, yc, yl⟩ := y
          simp only [Wd.v] at cy
          simp only at yk
          have HYV : Hid (Value.slice ya k yc = Wd.v ⟨ya, yc, yl⟩) := by show _ = _; rw [Wd.v, yk]
          rw [yk] at cy
          generalize hyy : l.getD i 0 = bb at *
          have cyd := (ext_drew wr).cell cy
          have e1d := (ext_drew wr).cell e1
          have HRW : Hid (Row wr B 22 rl) := hrow
          have EA : Ext wr (wr.alloc (.cells #[.int .u8 bb] 5)).drew := ((Ext.refl wr).alloc _).trans (ext_drew _)
          have cya : (wr.alloc (.cells #[.int .u8 bb] 5)).drew.cell? ⟨B, i, none⟩ = some (.slice ya k yc) := EA.cell cy
          have HBY : Hid (Bits (wr.alloc (.cells #[.int .u8 bb] 5)).drew ⟨ya, yc, yl⟩) := HLB.out.bits.ext EA
          have HOB : Hid (OwnB wr (wr.alloc (.cells #[.int .u8 bb] 5)).drew (.slice (some ⟨wr.heap.size, 0, none⟩) 1 1) [bb]) := by
            have := owned_one wr bb _ rfl
            exact ⟨this.1.trans (ext_drew _), ownsRow_ext this.2 (ext_drew _)⟩
          have HLN : Hid ([bb].length + yl.length ≤ 100000) := by
            have := HYK.out
            simp only at this
            show _ ≤ _
            rw [this]
            simp
            omega
          clear A lby yk nxt hE hBl hyy HEQ HTD hrow EA
          go_upto_region 13 with fail
          go_region_law (refine step_appendAny rfl (.tmp 45) (.tmp 49) rfl wr (.slice (some ⟨wr.heap.size, 0, none⟩) 1 1) (by rfl) [bb] HOB.out ⟨ya, yc, yl⟩ (.slice ya k yc) HYV.out (by rfl) HBY.out HLN.out ?_; intro z w2 O2 Z2 L2; have c2 := O2.out.1.cell cy; have f2 := (HRW.out.ext O2.out.1).fr i)
          all_goals
            have N1 : Hid (UI l w (w2.setCell ⟨B, i, none⟩ (.slice z.a z.l.length z.c)) B k (i + 1)) := HNX.out w2 z O2.out.1 L2.out (by rw [Z2.out]; rfl)
            clear HNX HOB HBY HRW O2 Z2 L2 c2 f2
            go_wp2
            go_roundg (n - (i + 1))
            case measure => omega
            case rel => exact ⟨i + 1, by omega, by omega, by go_num, N1.out⟩
        · have hin : i = n := by omega
          have S1 : Hid (US l w wr B k 1) := by
            have := A.out
            rw [hin, ← HN.out] at this
            exact this.done
          clear A
          go_wp2
          go_loopg [10, 11] n (fun gg s10 _ wr => ∃ i : Nat, 1 ≤ i ∧ i ≤ n + 1 ∧ n - i ≤ gg ∧ s10 = .int .i64 i ∧ Aside (US l w wr B k i))
          case atStart => exact ⟨1, by omega, by omega, by omega, rfl, S1.out⟩
          case round =>
            obtain ⟨i, hi1, hi2, hgg3, rfl, A⟩ := hrel
            clear S1
            by_cases hil : i < n
            · have hilz : (i : Int) < (n : Int) := by omega
              obtain ⟨x, hT⟩ := A.out.pick (by rw [HN.out]; exact hil)
              have T0 : Hid (UT l w wr B k i i x) := hT
              clear A hT
              go_wp2
              go_loopg [11] i (fun gg s11 wr => ∃ j : Nat, j ≤ i ∧ j ≤ gg ∧ s11 = .int .i64 j ∧ Aside (UT l w wr B k i j x))
              case atStart => exact ⟨i, Nat.le_refl _, Nat.le_refl _, rfl, T0.out⟩
              case round =>
                obtain ⟨j, hj1, hj2, rfl, A⟩ := hrel
                clear T0
                cases j with
                | zero =>
                  have N1 : Hid (US l w wr B k (i + 1)) := A.out.stop rfl
                  clear A HEQ HTD HAH
                  go_wp2
                  go_quiet (fail)
                  go_wp2
                  go_roundg (n - (i + 1))
                  case measure => omega
                  case rel => exact ⟨i + 1, by omega, by omega, by omega, by go_num, N1.out.mono (Qt.ext ⟨_, rfl⟩)⟩
                | succ j =>
                  obtain ⟨y, cx, cy, lbx, lby, hlen, fz, hyes, hno⟩ := A.out.pair
                  have f1 := fz (j + 1)
                  have f2 := fz j
                  have hah : Hid (∀ W, Qt wr W → Calls Try.prog 21 #[x.v, y.v] W fun e w' => e = .returned (.bool (ah x.l y.l)) ∧ ∃ m, w' = W.drewN m) := fun W hW => HAH.out x y W (lbx.bits.ext hW.ext) (lby.bits.ext hW.ext) hlen
                  have HYES : Hid (ah x.l y.l = true → ∀ W, Ext wr W → UT l w ((W.setCell ⟨B, j + 1, none⟩ y.v).setCell ⟨B, j, none⟩ x.v) B k i j x) := hyes
                  have HNO : Hid (ah x.l y.l = false → US l w wr B k (i + 1)) := hno
                  clear A lbx lby hlen fz hyes hno HEQ HTD HAH
                  obtain ⟨xa, xc, xl⟩ := x
                  obtain ⟨ya, yc, yl⟩ := y
                  simp only [Wd.v] at *
                  have b1 : (j : Int) + 1 < (n : Int) := by omega
                  have b0 : (j : Int) < (n : Int) := by omega
                  have hpz : (j : Int) + 1 > 0 := by omega
                  cases hab : ah xl yl with
                  | true =>
                    have N1 : Hid (∀ W, Qt wr W → UT l w ((W.setCell ⟨B, j + 1, none⟩ (.slice ya yl.length yc)).setCell ⟨B, j, none⟩ (.slice xa xl.length xc)) B k i j ⟨xa, xc, xl⟩) := by
                      intro W hW
                      exact HYES.out hab W hW.ext
                    rw [hab] at hah
                    clear HYES HNO hab
                    go_wp2
                    go_quiet ((go_at_call 21; exact Calls.quiet_of (hah.out _ ⟨_, rfl⟩)))
                    go_wp2
                    go_region
                    go_wp2
                    go_roundg j
                    case measure => omega
                    case rel => exact ⟨j, by omega, by omega, by go_num, N1.out _ ⟨_, rfl⟩⟩
                  | false =>
                    have N1 : Hid (US l w wr B k (i + 1)) := HNO.out hab
                    rw [hab] at hah
                    clear HYES HNO hab
                    go_wp2
                    go_quiet ((go_at_call 21; exact Calls.quiet_of (hah.out _ ⟨_, rfl⟩)))
                    go_wp2
                    go_roundg (n - (i + 1))
                    case measure => omega
                    case rel => exact ⟨i + 1, by omega, by omega, by omega, by go_num, N1.out.mono (Qt.ext ⟨_, rfl⟩)⟩
            · have N1 : Hid (UR l w wr B (k + 1)) := A.out.done (by rw [HN.out]; omega)
              clear A
              go_wp2
              go_roundg (n - (k + 1))
              case measure => omega
              case rel => exact ⟨k + 1, by omega, by omega, by go_num, N1.out⟩
    · have hkn : k = n := by omega
      have R1 : Hid (UR l w wr B l.length) := by
        have := A.out
        rw [hkn, ← HN.out] at this
        exact this
      clear A HAH
      obtain ⟨y, cy, by_, yl_, hE⟩ := R1.out.row (i := at_) (by rw [HN.out]; exact hat)
      have hct := HTD.out y wr by_ yl_
      have HY : Hid (Bits wr y ∧ y.l = un l at_ ∧ Ext w wr ∧ wr.cell? ⟨B, at_, none⟩ = some y.v) := ⟨by_, yl_, hE, cy⟩
      have haz : (at_ : Int) < (n : Int) := by omega
      clear HTD R1 by_ yl_ hE
      go_wp2_with fail
      refine hct.mono ?_
      rintro e w2 ⟨z, rfl, hzl, hz, E2⟩
      have hce : Hid (∀ W, Qt w2 W → Calls Try.prog 11 #[z.v, .slice (some ⟨b, o, none⟩) n c] W fun e w' => e = .returned (.bool (tl (un l at_) == l)) ∧ ∃ m, w' = W.drewN m) := fun W hW => HEQ.out z W (hz.ext hW.ext) (HY.out.2.2.1.trans (E2.trans hW.ext)) hzl
      have cy2 := E2.cell HY.out.2.2.2
      have HE2 : Hid (Ext w w2 ∧ Bits w2 y ∧ y.l = un l at_) := ⟨HY.out.2.2.1.trans E2, HY.out.1.ext E2, HY.out.2.1⟩
      have HFi : Hid (Fits l (un l at_) at_ ↔ ((tl (un l at_) == l) = true ∧ rk (un l at_) 0 = at_)) := by
        show _ ↔ _
        rw [beq_iff_eq]
        exact Iff.rfl
      clear hct HEQ hz hzl E2 HY cy
      simp only [Wd.v] at hce cy2 ⊢
      generalize (tl (un l at_) == l) = eb at *
      cases eb with
      | false =>
        have F : Hid (false = true ↔ Fits l (un l at_) at_) := ⟨fun h => absurd h Bool.false_ne_true, fun h => (HFi.out.1 h).1⟩
        clear HFi
        generalize (rk (un l at_) 0 : Int) = r0 at *
        go_wp2
        go_quiet ((go_at_call 11; exact Calls.quiet_of (hce.out _ ⟨_, rfl⟩)))
        go_wp2
        go_ret2
        exact ⟨HE2.out.1.trans (Qt.ext ⟨_, rfl⟩), y, false, HE2.out.2.1.ext (Qt.ext ⟨_, rfl⟩), HE2.out.2.2, rfl, by simpa using F.out⟩
      | true =>
        by_cases hr : rk (un l at_) 0 = at_
        · have F : Hid (Fits l (un l at_) at_) := HFi.out.2 ⟨rfl, hr⟩
          have hrz : ((rk (un l at_) 0 : Int) == (at_ : Int)) = true := by simp [hr]
          clear HFi hr
          generalize (rk (un l at_) 0 : Int) = r0 at *
          go_wp2
          go_quiet ((go_at_call 11; exact Calls.quiet_of (hce.out _ ⟨_, rfl⟩)))
          go_wp2
          go_ret2
          refine ⟨HE2.out.1.trans (Qt.ext ⟨_, rfl⟩), y, true, HE2.out.2.1.ext (Qt.ext ⟨_, rfl⟩), HE2.out.2.2, ?_, ⟨fun _ => F.out, fun _ => rfl⟩⟩
          rfl
        · have F : Hid (¬ Fits l (un l at_) at_) := fun hh => hr (HFi.out.1 hh).2
          have hrz : ((rk (un l at_) 0 : Int) == (at_ : Int)) = false := beq_eq_false_iff_ne.2 (by omega)
          clear HFi hr
          generalize (rk (un l at_) 0 : Int) = r0 at *
          go_wp2
          go_quiet ((go_at_call 11; exact Calls.quiet_of (hce.out _ ⟨_, rfl⟩)))
          go_wp2
          go_ret2
          refine ⟨HE2.out.1.trans (Qt.ext ⟨_, rfl⟩), y, false, HE2.out.2.1.ext (Qt.ext ⟨_, rfl⟩), HE2.out.2.2, ?_, ⟨fun h => absurd h Bool.false_ne_true, fun h => absurd h F.out⟩⟩
          rfl

end Go.Proofs.Ytkccdhidmihekaa
