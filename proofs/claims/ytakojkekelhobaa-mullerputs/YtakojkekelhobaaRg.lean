/-
  quipuref.MullerGet.
-/
import Derived.Test.YtakojkekelhobaaMv0
import Derived.Test.YtakojkekelhobaaRm
import Derived.Test.YtakojkekelhobaaVo
import Derived.Test.YtakojkekelhobaaAb
namespace Go.Proofs.Ytakojkekelhobaa
open Go.RowKit
set_option linter.unusedVariables false

set_option maxHeartbeats 4000000 in
set_option maxRecDepth 100000 in
theorem mullerGet_any (m r : Nat) (hm : m ≤ 4) (hr : r ≤ m) (x : Wd) (hl : x.l.length = 2 ^ m) (w : World) (hx : Bits w x) :
    Calls Try.prog 15 #[.int .i64 r, .int .i64 m, x.v] w fun e w' => ∃ d : Wd, e = .returned d.v ∧ d.l = bl (gd (2 ^ m) (pl m (r + 1)) r (fun i => x.l.getD i false) (r + 1)) (pl m (r + 1)).length ∧ Bits w' d ∧ Ext w w' := by
  have lim := pow_lim hm
  have few := l_few hm hr
  have few0 : 0 < (pl m (r + 1)).length := by have := ed_step hm hr (Nat.zero_le r); rw [ed_zero] at this; omega
  obtain ⟨xa, xc, xl⟩ := x
  obtain ⟨h1, h2, _, b0, o0, h4, h5⟩ := hx
  simp only at h1 h2 h4 h5 hl
  simp only [Wd.v]
  rw [hl] at h1 h4 h5 ⊢
  have h4' := h4 (by omega)
  subst h4'
  obtain ⟨F, hF⟩ : ∃ F : Nat → Bool, ∀ i, F i = xl.getD i false := ⟨_, fun _ => rfl⟩
  have EF : (fun i => xl.getD i false) = F := funext (fun i => (hF i).symm)
  rw [EF]
  obtain ⟨P, hP⟩ : ∃ P : Nat → Nat, ∀ i, P i = (pl m (r + 1)).getD i 0 := ⟨_, fun _ => rfl⟩
  obtain ⟨GD, hGD⟩ : ∃ GD : Nat → Nat → Bool, ∀ k, GD k = gd (2 ^ m) (pl m (r + 1)) r F k := ⟨_, fun _ => rfl⟩
  obtain ⟨LF, hLF⟩ : ∃ LF : Nat → Nat → Bool, ∀ k, LF k = lf (2 ^ m) (pl m (r + 1)) r F k := ⟨_, fun _ => rfl⟩
  obtain ⟨CC, hCC⟩ : ∃ CC : Nat → Nat → Bool, ∀ k, CC k = cc (2 ^ m) (pl m (r + 1)) r F k := ⟨_, fun _ => rfl⟩
  obtain ⟨V, hV⟩ : ∃ V : Nat → Nat → Bool, ∀ k i, V k i = vt (2 ^ m) (P i) (LF k) := ⟨_, fun _ _ => rfl⟩
  obtain ⟨AL, hAL⟩ : ∃ AL : Nat → Nat → Bool, ∀ k i, AL k i = (pop (P i) == r - k && V k i) := ⟨_, fun _ _ => rfl⟩
  obtain ⟨J, hJ⟩ : ∃ J : Nat → Nat → Nat → Bool, ∀ k j i, J k j i = if i < j then GD (k + 1) i else GD k i := ⟨_, fun _ _ _ => rfl⟩
  obtain ⟨A, hA⟩ : ∃ A : Nat → Nat → Nat → Bool, ∀ k j i, A k j i = if i < j then AL k i else false := ⟨_, fun _ _ _ => rfl⟩
  have GA : ∀ k i, GD (k + 1) i = (GD k i || AL k i) := fun k i => by rw [hGD, hGD, hAL, hV, hP, hLF]; rfl
  have PLT : Hid (∀ i, i < (pl m (r + 1)).length → P i < 2 ^ m) := fun i hi => by rw [hP]; exact (l_at hm hr hi).2
  have ALT : Hid (∀ k i, pop (P i) = r - k → V k i = true → AL k i = true) := fun k i h1 h2 => by rw [hAL, h2, beq_iff_eq.2 h1]; rfl
  have ALF : Hid (∀ k i, (¬ pop (P i) = r - k) ∨ V k i = false → AL k i = false) := fun k i h => by
    rw [hAL]
    rcases h with h | h
    · rw [show (pop (P i) == r - k) = false from beq_eq_false_iff_ne.2 h]; rfl
    · rw [h, Bool.and_false]
  have J0 : Hid (∀ k, J k 0 = GD k) := fun k => funext (fun i => by rw [hJ, if_neg (by omega)])
  have JE : Hid (∀ k n i, i < n → J k n i = GD (k + 1) i) := fun k n i hi => by rw [hJ, if_pos hi]
  have JT : Hid (∀ k j, AL k j = true → ∀ i, J k (j + 1) i = if i = j then true else J k j i) := fun k j h i => by
    rw [hJ, hJ]
    by_cases e : i = j
    · rw [if_pos (show i < j + 1 by omega), if_pos e, e, GA, h, Bool.or_true]
    · rw [if_neg e]
      by_cases h : i < j
      · rw [if_pos h, if_pos (show i < j + 1 by omega)]
      · rw [if_neg h, if_neg (show ¬ i < j + 1 by omega)]
  have JF : Hid (∀ k j, AL k j = false → J k (j + 1) = J k j) := fun k j h => funext (fun i => by
    rw [hJ, hJ]
    by_cases e : i = j
    · rw [if_pos (show i < j + 1 by omega), if_neg (show ¬ i < j by omega), e, GA, h, Bool.or_false]
    · by_cases h : i < j
      · rw [if_pos h, if_pos (show i < j + 1 by omega)]
      · rw [if_neg h, if_neg (show ¬ i < j + 1 by omega)])
  have A0 : Hid (∀ k i, A k 0 i = false) := fun k i => by rw [hA, if_neg (by omega)]
  have AE : Hid (∀ k n i, i < n → A k n i = AL k i) := fun k n i hi => by rw [hA, if_pos hi]
  have AT : Hid (∀ k j, AL k j = true → ∀ i, A k (j + 1) i = if i = j then true else A k j i) := fun k j h i => by
    rw [hA, hA]
    by_cases e : i = j
    · rw [if_pos (show i < j + 1 by omega), if_pos e, e, h]
    · rw [if_neg e]
      by_cases h : i < j
      · rw [if_pos h, if_pos (show i < j + 1 by omega)]
      · rw [if_neg h, if_neg (show ¬ i < j + 1 by omega)]
  have AF : Hid (∀ k j, AL k j = false → A k (j + 1) = A k j) := fun k j h => funext (fun i => by
    rw [hA, hA]
    by_cases e : i = j
    · rw [if_pos (show i < j + 1 by omega), if_neg (show ¬ i < j by omega), e, h]
    · by_cases h : i < j
      · rw [if_pos h, if_pos (show i < j + 1 by omega)]
      · rw [if_neg h, if_neg (show ¬ i < j + 1 by omega)])
  have G0 : Hid (∀ i, GD 0 i = false) := fun i => by rw [hGD]; rfl
  have GE : Hid (GD (r + 1) = gd (2 ^ m) (pl m (r + 1)) r F (r + 1)) := hGD (r + 1)
  have L0 : Hid (LF 0 = F) := hLF 0
  have LN : Hid (∀ k x, LF (k + 1) x = (LF k x != CC k x)) := fun k x => by rw [hLF, hLF, hCC]; rfl
  -- the callees
  have PRD : Hid (∀ W, Calls Try.prog 10 #[.int .i64 r, .int .i64 m] W fun e w' => ∃ b o c, e = .returned (.slice (some ⟨b, o, none⟩) (pl m (r + 1)).length c) ∧ (pl m (r + 1)).length ≤ c ∧ c ≤ 9223372036854775807 ∧ (∀ i, i < (pl m (r + 1)).length → w'.cell? ⟨b, o + i, none⟩ = some (.int .i64 (P i : Nat))) ∧ Ext W w') := fun W => by
    refine (products_any r m hm hr W).mono ?_
    rintro e w' ⟨v, rfl, O⟩
    obtain ⟨⟨ya, yc, yz⟩, rfl, y1, ⟨n1, n2, _, b, o, n4, n5⟩⟩ := O.nums
    simp only at y1 n1 n2 n4 n5
    subst y1
    rw [iv_len] at n1 n4 n5
    unfold maxLen at n2
    have n4' := n4 few0
    subst n4'
    exact ⟨b, o, yc, by simp only [Nm.v, iv_len], n1, by omega, fun i hi => by rw [n5 i hi, iv_at, hP], O.1⟩
  have VTS : Hid (∀ k i b o c W, i < (pl m (r + 1)).length → 2 ^ m ≤ c → c ≤ 9223372036854775807 → (∀ q, q < 2 ^ m → W.cell? ⟨b, o + q, none⟩ = some (.bool (LF k q))) →
      Calls Try.prog 22 #[.int .i64 m, .slice (some ⟨b, o, none⟩) (2 ^ m : Nat) c, .int .i64 (P i : Nat)] W fun e w' => ∃ s t : Nat, e = .returned (.tuple #[.int .i64 s, .int .i64 t]) ∧ s ≤ 16 ∧ t ≤ 16 ∧ (V k i = true ↔ t < s + s) ∧ w' = W) := fun k i b o c W hi q1 q2 q3 => by
    have hp := PLT.out i hi
    have c0 := votes_any m (P i) hm (by omega) ⟨some ⟨b, o, none⟩, c, bl (LF k) (2 ^ m)⟩ (bl_len _ _) W ⟨by show (bl _ _).length ≤ c; rw [bl_len]; exact q1, by show c ≤ maxLen; unfold maxLen; omega, by simp, b, o, fun _ => rfl, fun q hq => by
      have hq' : q < 2 ^ m := by rw [← bl_len (LF k) (2 ^ m)]; exact hq
      rw [q3 q hq', bl_at _ hq']⟩
    simp only [Wd.v, bl_len] at c0
    refine c0.mono ?_
    rintro e w' ⟨he, hw⟩
    have y1 : yes (2 ^ m) (P i) (fun i => (bl (LF k) (2 ^ m)).getD i false) (2 ^ m) ≤ 2 ^ m := ct_le _ _
    have y2 : all (P i) (2 ^ m) ≤ 2 ^ m := ct_le _ _
    refine ⟨_, _, he, by omega, by omega, ?_, hw⟩
    rw [hV, ← vt_congr (N := 2 ^ m) (p := P i) (l := fun i => (bl (LF k) (2 ^ m)).getD i false) (fun i hi => bl_at _ hi)]
    unfold vt
    rw [decide_eq_true_eq]
  have SIZ : Hid (∀ i W, i < (pl m (r + 1)).length → Calls Try.prog 19 #[.int .u32 (P i : Nat)] W fun e w' => e = .returned (.int .i64 (pop (P i) : Nat)) ∧ w' = W) := fun i W hi => size_any (P i) (by have := PLT.out i hi; omega) W
  have MUL : Hid (∀ k B W, Row W B 4 (bf (AL k) (pl m (r + 1)).length) → Calls Try.prog 13 #[.int .i64 r, .int .i64 m, .slice (some ⟨B, 0, none⟩) (pl m (r + 1)).length (pl m (r + 1)).length] W fun e w' => ∃ b o c, e = .returned (.slice (some ⟨b, o, none⟩) (2 ^ m : Nat) c) ∧ 2 ^ m ≤ c ∧ c ≤ 9223372036854775807 ∧ (∀ i, i < 2 ^ m → w'.cell? ⟨b, o + i, none⟩ = some (.bool (CC k i))) ∧ Ext W w') := fun k B W hR => by
    have hb := hR
    rw [bf_bv] at hb
    have hb' := hb.bits (by rw [bl_len]; unfold maxLen; omega)
    have c0 := muller_any r m hm hr ⟨some ⟨B, 0, none⟩, (bl (AL k) (pl m (r + 1)).length).length, bl (AL k) (pl m (r + 1)).length⟩ (bl_len _ _) W hb'
    simp only [Wd.v, bl_len] at c0
    refine c0.mono ?_
    rintro e w' ⟨v, rfl, O⟩
    obtain ⟨⟨ya, yc, yl⟩, rfl, y1, ⟨n1, n2, _, b, o, n4, n5⟩⟩ := O.bits
    simp only at y1 n1 n2 n4 n5
    subst y1
    rw [bl_len] at n1 n4 n5
    unfold maxLen at n2
    have n4' := n4 (by omega)
    subst n4'
    refine ⟨b, o, yc, by simp only [Wd.v, bl_len], n1, by omega, fun i hi => ?_, O.1⟩
    rw [n5 i hi, bl_at _ hi, hCC]
    congr 2
    unfold cc
    refine cw_congr i (fun q hq => ?_)
    rw [bl_at _ hq, hAL, hP, hV, hP, hLF]
  have HX : Hid (∀ i, i < 2 ^ m → w.cell? ⟨b0, o0 + i, none⟩ = some (.bool (LF 0 i))) := fun i hi => by rw [h5 i hi, L0.out, hF]
  have GE' : Hid (bl (gd (2 ^ m) (pl m (r + 1)) r F (r + 1)) (pl m (r + 1)).length = bl (GD (r + 1)) (pl m (r + 1)).length) := by show _ = _; rw [GE.out]
  have P16 : Hid (∀ i, i < (pl m (r + 1)).length → P i < 16) := fun i hi => by have := PLT.out i hi; omega
  clear EF hF h5 hP hGD hLF hCC hV hAL hJ hA GA hl PLT L0 GE h4
  generalize bl (gd (2 ^ m) (pl m (r + 1)) r F (r + 1)) (pl m (r + 1)).length = RES at *
  clear F
  unfold maxLen at h2
  generalize (pl m (r + 1)).length = n at *
  generalize 2 ^ m = M at *
  go_enter Try.func15, Try.ntmps15
  go_wp2_with fail
  refine (PRD.out w).mono ?_
  rintro e w1 ⟨pb, po, pc, rfl, p1, p2, C1, E1⟩
  have HC : Hid (∀ i, i < n → w1.cell? ⟨pb, po + i, none⟩ = some (.int .i64 (P i : Nat))) := C1
  have hb0 : b0 < w.heap.size := World.block_lt_of_cell? _ _ (HX.out 0 (by omega))
  have hw1 := E1.size
  have HX1 : Hid (∀ i, i < M → w1.cell? ⟨b0, o0 + i, none⟩ = some (.bool (LF 0 i))) := fun i hi => E1.cell (HX.out i hi)
  have EW : Hid (Ext w w1) := E1
  clear C1 E1 HX PRD
  have hmk := run_make_row' (P := Try.prog) 29 4 (.bool false) 1 Try.underlying29 info4 rfl .i64 .i64 n (by omega) (by omega)
  have st : Hid (∃ W, W = w1.alloc (.cells (madeCells #[.bool false] n) 4) ∧ Ext w1 W ∧ Row W w1.heap.size 4 (bf (GD 0) n) ∧ (∀ i, i < M → W.cell? ⟨b0, o0 + i, none⟩ = some (.bool (LF 0 i)))) :=
    ⟨_, rfl, (Ext.refl w1).alloc _, Row.madeF w1 4 (.bool false) n _ (fun i _ => by rw [G0.out]), fun i hi => ((Ext.refl w1).alloc _).cell (HX1.out i hi)⟩
  go_wp2
  obtain ⟨W, hW, hE1, hR1, hX1⟩ := st.out
  rw [← hW]
  have HE1 : Hid (Ext w1 W) := hE1
  have HR1 : Hid (Row W w1.heap.size 4 (bf (GD 0) n)) := hR1
  have HX2 : Hid (∀ i, i < M → W.cell? ⟨b0, o0 + i, none⟩ = some (.bool (LF 0 i))) := hX1
  clear hW hE1 hR1 hX1 st hmk HX1
  obtain ⟨B, hB⟩ : ∃ B, w1.heap.size = B := ⟨_, rfl⟩
  have HBB : Hid (w1.heap.size = B) := hB
  rw [hB] at HR1 hw1 ⊢
  clear hB
  go_loopg [2, 9] (r + 1) (fun gg s2 s9 wr => ∃ (k b o c : Nat), k ≤ r + 1 ∧ r + 1 - k ≤ gg ∧ s9 = .int .i64 ((r : Int) - (k : Int)) ∧ s2 = .slice (some ⟨b, o, none⟩) M c ∧ M ≤ c ∧ c ≤ 9223372036854775807 ∧ b ≠ B ∧ Aside (∀ i, i < M → wr.cell? ⟨b, o + i, none⟩ = some (.bool (LF k i))) ∧ Aside (Ext w1 wr) ∧ Aside (Row wr B 4 (bf (GD k) n)))
  case atStart => exact ⟨0, b0, o0, xc, Nat.zero_le _, by omega, by simp, rfl, by omega, by omega, by omega, HX2.out, HE1.out, HR1.out⟩
  case round =>
    obtain ⟨k, b, o, c, hk, hgg, rfl, rfl, c1, c2, hbB, XC, XE, XR⟩ := hrel
    clear HE1 HR1 HX2
    by_cases hkr : k ≤ r
    · have hdz : (0 : Int) ≤ (r : Int) - (k : Int) := by omega
      have hbw : b < wr.heap.size := World.block_lt_of_cell? _ _ (XC.out 0 (by omega))
      have hBr : B < wr.heap.size := Row.lt XR.out
      have hmk := run_make_row' (P := Try.prog) 29 4 (.bool false) 1 Try.underlying29 info4 rfl .i64 .i64 n (by omega) (by omega)
      have st : Hid (∃ W, W = wr.alloc (.cells (madeCells #[.bool false] n) 4) ∧ Ext w1 W ∧ Row W wr.heap.size 4 (bf (A k 0) n) ∧ Row W B 4 (bf (J k 0) n) ∧ (∀ i, i < M → W.cell? ⟨b, o + i, none⟩ = some (.bool (LF k i)))) :=
        ⟨_, rfl, XE.out.alloc _, Row.madeF wr 4 (.bool false) n _ (fun i _ => by rw [A0.out]), by rw [J0.out]; exact Row.ext XR.out ((Ext.refl wr).alloc _), fun i hi => ((Ext.refl wr).alloc _).cell (XC.out i hi)⟩
      clear XC XE XR
      go_wp2
      obtain ⟨W, hW, hE1, hA1, hR1, hX1⟩ := st.out
      rw [← hW]
      have YE : Hid (Ext w1 W) := hE1
      have YA : Hid (Row W wr.heap.size 4 (bf (A k 0) n)) := hA1
      have YR : Hid (Row W B 4 (bf (J k 0) n)) := hR1
      have YC : Hid (∀ i, i < M → W.cell? ⟨b, o + i, none⟩ = some (.bool (LF k i))) := hX1
      clear hW hE1 hA1 hR1 hX1 st hmk
      generalize wr.heap.size = S at *
      go_loopg [34] n (fun gg s34 wr => ∃ j : Nat, j ≤ n ∧ n - j ≤ gg ∧ s34 = .int .i64 j ∧ Aside (Ext w1 wr) ∧ Aside (Row wr S 4 (bf (A k j) n)) ∧ Aside (Row wr B 4 (bf (J k j) n)) ∧ Aside (∀ i, i < M → wr.cell? ⟨b, o + i, none⟩ = some (.bool (LF k i))))
      case atStart => exact ⟨0, Nat.zero_le _, by omega, rfl, YE.out, YA.out, YR.out, YC.out⟩
      case round =>
        obtain ⟨j, hj, hgj, rfl, ZE, ZA, ZR, ZC⟩ := hrel
        clear YE YA YR YC
        by_cases hjn : j < n
        · have hjz : (j : Int) < (n : Int) := by omega
          have e1 := ZE.out.cell (HC.out j hjn)
          have v1 := VTS.out k j b o c wr hjn c1 c2 ZC.out
          have v2 : Hid (∀ W, Calls Try.prog 19 #[.int .u32 (P j : Nat)] W fun e w' => e = .returned (.int .i64 (pop (P j) : Nat)) ∧ w' = W) := fun W => SIZ.out j W hjn
          have p16 := P16.out j hjn
          have jt := JT.out k j
          have jf := JF.out k j
          have aT := AT.out k j
          have af := AF.out k j
          have alt := ALT.out k j
          have alf := ALF.out k j
          have ZE' : Hid (Ext w1 wr) := ZE.out
          have ZA' : Hid (Row wr S 4 (bf (A k j) n)) := ZA.out
          have ZR' : Hid (Row wr B 4 (bf (J k j) n)) := ZR.out
          have ZC' : Hid (∀ i, i < M → wr.cell? ⟨b, o + i, none⟩ = some (.bool (LF k i))) := ZC.out
          clear ZE ZA ZR ZC
          generalize P j = pj at *
          generalize pop pj = z at *
          by_cases hp : z = r - k
          · have hz : (z : Int) = (r : Int) - (k : Int) := by omega
            cases hv : V k j
            · have hal := alf (.inr hv)
              have nJ := jf hal
              have nA := af hal
              rw [hv] at v1
              have NJ : Hid (J k (j + 1) = J k j) := nJ
              have NA : Hid (A k (j + 1) = A k j) := nA
              clear jt jf aT af alt alf hal nJ nA hv hp
              go_wp2_with (first | (go_at_call 22; refine v1.mono ?_; rintro e w2 ⟨s, t, rfl, s1, t1, hst, rfl⟩; clear v1; have hst2 : ¬ (t : Int) < (s : Int) + (s : Int) := (fun h => by have := hst.2 (by omega); cases this); clear hst) | (go_at_call 19; refine (v2.out _).mono ?_; rintro e w3 ⟨rfl, rfl⟩))
              go_roundg (n - (j + 1))
              case measure => omega
              case rel => exact ⟨j + 1, by omega, by omega, by go_num, ZE'.out, by rw [NA.out]; exact ZA'.out, by rw [NJ.out]; exact ZR'.out, ZC'.out⟩
            · have hal := alt hp hv
              have nJ := jt hal
              have nA := aT hal
              rw [hv] at v1
              have NJ : Hid (∀ i, J k (j + 1) i = if i = j then true else J k j i) := nJ
              have NA : Hid (∀ i, A k (j + 1) i = if i = j then true else A k j i) := nA
              have e2 := ZR'.out.cellF j hjn
              have f2 := ZR'.out.fr j
              have rB : Row (wr.setCell ⟨B, j, none⟩ (.bool true)) B 4 (bf (J k (j + 1)) n) := ZR'.out.setF _ _ (fun i hi => by
                rw [NJ.out]
                by_cases e : i = j
                · rw [if_pos e, if_pos e]
                · rw [if_neg e, if_neg e])
              have rS : Row (wr.setCell ⟨B, j, none⟩ (.bool true)) S 4 (bf (A k j) n) := Row.other ZA'.out ⟨B, j, none⟩ (by show B ≠ S; omega) _
              have e3 := rS.cellF j hjn
              have f3 := rS.fr j
              have nR : Hid (Row ((wr.setCell ⟨B, j, none⟩ (.bool true)).setCell ⟨S, j, none⟩ (.bool true)) B 4 (bf (J k (j + 1)) n)) := Row.other rB ⟨S, j, none⟩ (by show S ≠ B; omega) _
              have nS : Hid (Row ((wr.setCell ⟨B, j, none⟩ (.bool true)).setCell ⟨S, j, none⟩ (.bool true)) S 4 (bf (A k (j + 1)) n)) := rS.setF _ _ (fun i hi => by
                rw [NA.out]
                by_cases e : i = j
                · rw [if_pos e, if_pos e]
                · rw [if_neg e, if_neg e])
              have nE : Hid (Ext w1 ((wr.setCell ⟨B, j, none⟩ (.bool true)).setCell ⟨S, j, none⟩ (.bool true))) := (ZE'.out.setCell (by show w1.heap.size ≤ B; rw [HBB.out]; exact Nat.le_refl _) _).setCell (by show w1.heap.size ≤ S; rw [HBB.out]; omega) _
              have nC : Hid (∀ i, i < M → ((wr.setCell ⟨B, j, none⟩ (.bool true)).setCell ⟨S, j, none⟩ (.bool true)).cell? ⟨b, o + i, none⟩ = some (.bool (LF k i))) := fun i hi => by
                rw [World.cell?_setCell_other _ _ _ _ (by intro h; simp only [Addr.mk.injEq] at h; omega), World.cell?_setCell_other _ _ _ _ (by intro h; simp only [Addr.mk.injEq] at h; omega)]
                exact ZC'.out i hi
              clear jt jf aT af alt alf hal nJ nA hv hp rB rS ZE' ZA' ZR' ZC'
              generalize J k j j = q1 at *
              generalize A k j j = q2 at *
              go_wp2_with (first | (go_at_call 22; refine v1.mono ?_; rintro e w2 ⟨s, t, rfl, s1, t1, hst, rfl⟩; clear v1; have hst2 : (t : Int) < (s : Int) + (s : Int) := (by have := hst.1 rfl; omega); clear hst) | (go_at_call 19; refine (v2.out _).mono ?_; rintro e w3 ⟨rfl, rfl⟩))
              go_roundg (n - (j + 1))
              case measure => omega
              case rel => exact ⟨j + 1, by omega, by omega, by go_num, nE.out, nS.out, nR.out, nC.out⟩
          · have hz : ¬ (z : Int) = (r : Int) - (k : Int) := by omega
            have hal := alf (.inl hp)
            have nJ := jf hal
            have nA := af hal
            have NJ : Hid (J k (j + 1) = J k j) := nJ
            have NA : Hid (A k (j + 1) = A k j) := nA
            clear jt jf aT af alt alf hal nJ nA hp
            go_wp2_with (first | (go_at_call 22; refine v1.mono ?_; rintro e w2 ⟨s, t, rfl, s1, t1, hst, rfl⟩; clear v1 hst) | (go_at_call 19; refine (v2.out _).mono ?_; rintro e w3 ⟨rfl, rfl⟩))
            go_roundg (n - (j + 1))
            case measure => omega
            case rel => exact ⟨j + 1, by omega, by omega, by go_num, ZE'.out, by rw [NA.out]; exact ZA'.out, by rw [NJ.out]; exact ZR'.out, ZC'.out⟩
        · obtain rfl : j = n := by omega
          have hjz : ¬ (j : Int) < (j : Int) := by omega
          have rA : Row wr S 4 (bf (AL k) j) := by
            have h := ZA.out
            have q : bf (A k j) j = bf (AL k) j := List.map_congr_left (fun i hi => by rw [AE.out k j i (List.mem_range.1 hi)])
            rw [q] at h
            exact h
          have rB : Hid (Row wr B 4 (bf (GD (k + 1)) j)) := by
            have h := ZR.out
            have q : bf (J k j) j = bf (GD (k + 1)) j := List.map_congr_left (fun i hi => by rw [JE.out k j i (List.mem_range.1 hi)])
            rw [q] at h
            exact h
          have m1 := MUL.out k S wr rA
          have ZE' : Hid (Ext w1 wr) := ZE.out
          have ZC' : Hid (∀ i, i < M → wr.cell? ⟨b, o + i, none⟩ = some (.bool (LF k i))) := ZC.out
          have hBw : B < wr.heap.size := Row.lt rB.out
          have LN' : Hid (∀ x, LF (k + 1) x = (LF k x != CC k x)) := LN.out k
          clear ZE ZA ZR ZC rA
          go_wp2_with (go_at_call 13; refine m1.mono ?_; rintro e w3 ⟨yb, yo, yc, rfl, y1, y2, YC, YE⟩; clear m1; have hw3 := YE.size; have XE3 : Hid (Ext w1 w3) := ZE'.out.trans YE; have XR3 : Hid (Row w3 B 4 (bf (GD (k + 1)) j)) := Row.ext rB.out YE; have XC3 : Hid (∀ i, i < M → w3.cell? ⟨b, o + i, none⟩ = some (.bool (LF k i))) := (fun i hi => YE.cell (ZC'.out i hi)); have YC3 : Hid (∀ i, i < M → w3.cell? ⟨yb, yo + i, none⟩ = some (.bool (CC k i))) := YC; clear YE YC rB ZE' ZC')
          go_loopg [16, 17] M (fun gg s16 s17 wr => ∃ (q : Nat) (sv : Value), q ≤ M ∧ M - q ≤ gg ∧ s17 = .int .i64 q ∧ sv = s16 ∧ Aside (OwnB w3 wr sv (bl (LF (k + 1)) q)))
          case atStart => exact ⟨0, _, Nat.zero_le _, by omega, rfl, rfl, OwnB.nil (Ext.refl _)⟩
          case round =>
            obtain ⟨q, u16, hq, hgq, rfl, rfl, O⟩ := hrel
            by_cases hqM : q < M
            · have hqz : (q : Int) < (M : Int) := by omega
              have e1 := (O.out.1.drewN 1).cell (XC3.out q hqM)
              have e2 := (O.out.1.drewN 1).cell (YC3.out q hqM)
              have O1 : Hid (OwnB w3 wr.drew u16 (bl (LF (k + 1)) q)) := O.out.ext ((Ext.refl wr).drewN 1)
              have hsn := bl_snoc (LF (k + 1)) q
              rw [LN'.out] at hsn
              have hln : Hid ((bl (LF (k + 1)) q).length + 1 ≤ 140737488355328) := by show _ ≤ _; rw [bl_len]; omega
              clear O LN' XE3 XR3
              have e1' : wr.drew.cell? ⟨b, o + q, none⟩ = some (.bool (LF k q)) := e1
              have e2' : wr.drew.cell? ⟨yb, yo + q, none⟩ = some (.bool (CC k q)) := e2
              clear e1 e2
              have HSN : Hid (bl (LF (k + 1)) (q + 1) = bl (LF (k + 1)) q ++ [LF k q != CC k q]) := hsn
              clear hsn
              generalize LF k q = a1 at *
              generalize CC k q = a2 at *
              go_wp2
              go_region_law (refine step_appendBit rfl (.tmp 75) (.tmp 85) rfl w3 u16 (by rfl) _ O1.out (a1 != a2) (by rfl) hln.out ?_; intro v' w4 O4)
              all_goals
                have O5 : Hid (OwnB w3 w4 v' (bl (LF (k + 1)) (q + 1))) := by show OwnB _ _ _ _; rw [HSN.out]; exact O4.out
                clear O4
                simp only [Act.put, List.getElem_toArray, List.getElem_cons_succ, List.getElem_cons_zero, List.setIfInBounds_toArray, List.set_cons_succ, List.set_cons_zero]
                go_wp2
                go_roundg (M - (q + 1))
                case measure => omega
                case rel => exact ⟨q + 1, _, by omega, by omega, by go_num, rfl, O5.out⟩
            · obtain rfl : q = M := by omega
              have hqz : ¬ (q : Int) < (q : Int) := by omega
              obtain ⟨g, cap, rest, rfl, hg, hcap, hmax, hRB, hrest⟩ := O.out.row (by rw [bl_len]; omega)
              rw [bl_len] at hcap ⊢
              have XE4 : Hid (Ext w1 wr) := XE3.out.trans O.out.1
              have XR4 : Hid (Row wr B 4 (bf (GD (k + 1)) j)) := Row.ext XR3.out O.out.1
              have XC4 : Hid (∀ i, i < q → wr.cell? ⟨g, 0 + i, none⟩ = some (.bool (LF (k + 1) i))) := fun i hi => by
                rw [Nat.zero_add, hRB.cell i (by rw [bl_len]; exact hi), bl_at _ hi]
              unfold maxLen at hmax
              clear O hRB hrest XE3 XR3 XC3 YC3
              go_wp2
              go_roundg (r + 1 - (k + 1))
              case measure => omega
              case rel => exact ⟨k + 1, g, 0, cap, by omega, by omega, by go_num, rfl, by omega, by omega, by omega, XC4.out, XE4.out, XR4.out⟩
    · obtain rfl : k = r + 1 := by omega
      have hdz : ¬ (0 : Int) ≤ (r : Int) - ((r + 1 : Nat) : Int) := by omega
      have XE' : Hid (Ext w1 wr) := XE.out
      have XR' : Hid (Row wr B 4 (bf (GD (r + 1)) n)) := XR.out
      clear XE XR XC
      go_wp2
      go_ret
      refine ⟨⟨some ⟨B, 0, none⟩, n, bl (GD (r + 1)) n⟩, by show _ = Ending.returned (.slice _ (bl (GD (r + 1)) n).length n); rw [bl_len]; rfl, by rw [GE'.out], ?_, EW.out.trans XE'.out⟩
      have h := XR'.out
      rw [bf_bv] at h
      have := h.bits (by rw [bl_len]; unfold maxLen; omega)
      rw [bl_len] at this
      exact this

end Go.Proofs.Ytakojkekelhobaa
