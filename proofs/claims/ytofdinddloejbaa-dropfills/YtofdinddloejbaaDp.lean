/-
  quipuref.Drops.
-/
import Derived.Test.YtofdinddloejbaaPl
import Derived.Test.YtofdinddloejbaaSl
namespace Go.Proofs.Ytofdinddloejbaa
open Go.RowKit
set_option linter.unusedVariables false

set_option maxHeartbeats 4000000 in
theorem drops_any (a : Nat) (x : Wd) (hl : x.l.length < 12) (ha : a ≤ x.l.length + 1) (w : World) (hx : Bits w x) : Calls Try.prog 16 #[.int .i64 a, x.v] w fun e w' => ∃ y : Wd, e = .returned (.tuple #[y.v, .bool true]) ∧ y.l = fl a x.l ∧ Bits w' y ∧ Ext w w' := by
  obtain ⟨P, hP⟩ : ∃ P : Nat → Nat → Prop, ∀ k j, P k j ↔ ((∀ i, i < k → ∀ b, sm (ins i b x.l) ≠ a) ∧ (0 < j → sm (ins k false x.l) ≠ a) ∧ (1 < j → sm (ins k true x.l) ≠ a)) := ⟨_, fun _ _ => Iff.rfl⟩
  have Z0 : Hid (P 0 0) := by
    show P 0 0
    rw [hP]
    exact ⟨fun i hi => absurd hi (Nat.not_lt_zero _), fun h => absurd h (by omega), fun h => absurd h (by omega)⟩
  have ZN : Hid (∀ k, P k 2 → P (k + 1) 0) := fun k h => by
    rw [hP] at h ⊢
    refine ⟨fun i hi b => ?_, fun h => absurd h (by omega), fun h => absurd h (by omega)⟩
    rcases Nat.lt_succ_iff_lt_or_eq.1 hi with h' | rfl
    · exact h.1 i h' b
    · cases b
      · exact h.2.1 (by omega)
      · exact h.2.2 (by omega)
  have NX : Hid (∀ k j b, P k j → j < 2 → decide (j = 1) = b → sm (ins k b x.l) ≠ a → P k (j + 1)) := fun k j b h hj hb hne => by
    rw [hP] at h ⊢
    refine ⟨h.1, fun _ => ?_, fun _ => ?_⟩
    · by_cases h0 : j = 0
      · subst h0; subst hb; exact hne
      · exact h.2.1 (by omega)
    · have h1 : j = 1 := by omega
      subst h1; subst hb; exact hne
  have HE : Hid (∀ j, ¬ P (x.l.length + 1) j) := fun j h => by
    rw [hP] at h
    obtain ⟨k, b, hk, e, _⟩ := fl_is a x.l
    refine h.1 k (by omega) b ?_
    rw [← e, fl_sum ha]
  have FU : Hid (∀ (k : Nat) (b : Bool), k ≤ x.l.length → sm (ins k b x.l) = a → ins k b x.l = fl a x.l) := fun k b hk h => fl_uniq ha hk h
  have F1 : Hid (∀ (k : Nat) (o : Oper) (ev : Operand → Value) (xo ko : Operand) W, k ≤ x.l.length → o.op = .slice 22 xo none (some ko) none → ev xo = x.v → ev ko = .int .i64 k → (execOp ev o).run Try.prog W = .ok (.value (x.front k).v) W) := fun k o ev xo ko W hk h1 h2 h3 => exec_front hx hk xo ko h1 h2 h3 W
  have F2 : Hid (∀ (k : Nat) (o : Oper) (ev : Operand → Value) (xo ko : Operand) W, k ≤ x.l.length → o.op = .slice 22 xo (some ko) none none → ev xo = x.v → ev ko = .int .i64 k → (execOp ev o).run Try.prog W = .ok (.value (x.back k).v) W) := fun k o ev xo ko W hk h1 h2 h3 => exec_back hx hk xo ko h1 h2 h3 W
  have B1 : Hid (∀ k W, Ext w W → Bits W (x.front k)) := fun k W E => (hx.front k).ext E
  have B2 : Hid (∀ k W, k ≤ x.l.length → Ext w W → Bits W (x.back k)) := fun k W hk E => (hx.back hk).ext E
  have HW : Hid (∀ k b, (x.front k).l ++ [b] ++ (x.back k).l = ins k b x.l) := fun k b => by show x.l.take k ++ [b] ++ x.l.drop k = _; unfold ins; simp
  have HL : Hid (∀ k b, (ins k b x.l).length = x.l.length + 1) := fun k b => ins_len b
  have N1 : Hid (∀ k, (x.front k).l.length ≤ 1000) := fun k => by show (x.l.take k).length ≤ _; rw [List.length_take]; omega
  have N2 : Hid (∀ k, (x.back k).l.length ≤ 1000) := fun k => by show (x.l.drop k).length ≤ _; rw [List.length_drop]; omega
  obtain ⟨I, hI⟩ : ∃ I : Nat → Bool → List Bool, ∀ k b, I k b = ins k b x.l := ⟨_, fun _ _ => rfl⟩
  simp only [← hI] at NX FU HW HL
  clear hP hI
  generalize fl a x.l = F at *
  obtain ⟨Y, hY⟩ : ∃ Y : Nat → Wd, ∀ k, Y k = x.front k := ⟨_, fun _ => rfl⟩
  obtain ⟨Z, hZ⟩ : ∃ Z : Nat → Wd, ∀ k, Z k = x.back k := ⟨_, fun _ => rfl⟩
  simp only [← hY, ← hZ] at F1 F2 B1 B2 HW N1 N2
  clear hY hZ hx
  have HX : Hid (x.v = .slice x.a x.l.length x.c) := rfl
  simp only [Wd.v] at F1 F2 ⊢
  generalize x.l.length = n at *
  generalize x.a = xa at *
  generalize x.c = xc at *
  clear HX
  go_enter Try.func16, Try.ntmps16
  go_wp2
  go_loopg [6, 7, 8] (n + 1) (fun gg s6 _ _ wr => ∃ k : Nat, k ≤ n + 1 ∧ n + 1 - k ≤ gg ∧ s6 = .int .i64 k ∧ Aside (Ext w wr) ∧ Aside (P k 0))
  case atStart => exact ⟨0, by omega, by omega, rfl, Ext.refl _, Z0.out⟩
  case round =>
    obtain ⟨k, hk, hgg, rfl, E, PP⟩ := hrel
    by_cases hlt : k = n + 1
    · subst hlt
      exact absurd PP.out (HE.out 0)
    have hltz : (k : Int) ≤ (n : Int) := by omega
    have hkn : k ≤ n := by omega
    have EW : Hid (Ext w wr) := E.out
    have PW : Hid (P k 0) := PP.out
    clear E PP HE Z0
    obtain ⟨wx, hwx⟩ : ∃ wx, wx = wr := ⟨_, rfl⟩
    rw [← hwx] at EW ⊢
    clear hwx
    go_wp2
    go_loopg [7, 8] 2 (fun gk s7 _ wq => ∃ j : Nat, j ≤ 2 ∧ 2 - j ≤ gk ∧ s7 = .int .i64 j ∧ Aside (Ext w wq) ∧ Aside (P k j))
    case atStart => exact ⟨0, by omega, by omega, rfl, EW.out, PW.out⟩
    case round =>
      obtain ⟨j, hj, hgk, rfl, E, PP⟩ := hrel
      have ER : Hid (Ext w wr) := E.out
      have PR : Hid (P k j) := PP.out
      clear E PP EW PW
      by_cases hj2 : j = 2
      · subst hj2
        have PN := ZN.out k PR.out
        clear ZN NX FU F1 F2 B1 B2 HW HL N1 N2
        go_wp2
        go_roundg (n + 1 - (k + 1))
        case measure => omega
        case rel => exact ⟨k + 1, by omega, by omega, by go_num, ER.out, PN⟩
      · have hjz : (j : Int) < 2 := by omega
        obtain ⟨b, hb⟩ : ∃ b, decide (j = 1) = b := ⟨_, rfl⟩
        have hbz : (((j : Int) == 1) : Bool) = b := by
          rw [← hb, Bool.eq_iff_iff]
          simp
          omega
        have NX' : Hid (sm (I k b) ≠ a → P k (j + 1)) := fun h => NX.out k j b PR.out (by omega) hb h
        have FU' : Hid (sm (I k b) = a → I k b = F) := fun h => FU.out k b hkn h
        have G1 : Hid (∀ (o : Oper) (ev : Operand → Value) (xo ko : Operand) W, o.op = .slice 22 xo none (some ko) none → ev xo = .slice xa n xc → ev ko = .int .i64 k → (execOp ev o).run Try.prog W = .ok (.value (Y k).v) W) := fun o ev xo ko W => F1.out k o ev xo ko W hkn
        have G2 : Hid (∀ (o : Oper) (ev : Operand → Value) (xo ko : Operand) W, o.op = .slice 22 xo (some ko) none none → ev xo = .slice xa n xc → ev ko = .int .i64 k → (execOp ev o).run Try.prog W = .ok (.value (Z k).v) W) := fun o ev xo ko W => F2.out k o ev xo ko W hkn
        have D1 : Hid (∀ W, Ext w W → Bits W (Y k)) := B1.out k
        have D2 : Hid (∀ W, Ext w W → Bits W (Z k)) := fun W => B2.out k W hkn
        have HW' : Hid ((Y k).l ++ [b] ++ (Z k).l = I k b) := HW.out k b
        have HL' : Hid ((I k b).length = n + 1) := HL.out k b
        have M1 : Hid ((Y k).l.length ≤ 1000) := N1.out k
        have M2 : Hid ((Z k).l.length ≤ 1000) := N2.out k
        clear NX FU F1 F2 B1 B2 HW HL N1 N2 ZN PR hb
        generalize Y k = y at *
        generalize Z k = z at *
        generalize I k b = R at *
        have CP : Hid (∀ (u : Wd) W, u.l = R → Bits W u → Calls Try.prog 10 #[u.v] W fun e w' => e = .returned (.int .i64 (sm R : Nat)) ∧ w' = W) := fun u W hu h => by
          have := refPlaces_any u (by rw [hu, HL'.out]; omega) W h
          rw [hu] at this
          exact this
        clear HL'
        go_wp2
        refine wp_region_mix (fun _ => True) 14 (by rfl) (by kernel_rfl) ?_
        have E0 : Hid (Ext w wr.drew) := ER.out.trans ((Ext.refl wr).drewN 1)
        clear ER
        generalize wr.drew = W0 at *
        refine wpMix_take (v := .slice xa n xc) 1 (by rfl) (by kernel_rfl) ⟨by rfl, ?_⟩ ?_
        · rintro W hW
          go_simp
        refine wpMix_take (v := .int .i64 k) 2 (by rfl) (by kernel_rfl) ⟨by rfl, ?_⟩ ?_
        · rintro W hW
          go_simp
        refine wpMix_take (v := y.v) 3 (by rfl) (by kernel_rfl) ⟨by rfl, ?_⟩ ?_
        · rintro W hW
          exact G1.out _ _ _ _ W (by rfl) (by rfl) (by rfl)
        refine wpMix_take (v := .int .i64 j) 5 (by rfl) (by kernel_rfl) ⟨by rfl, ?_⟩ ?_
        · rintro W hW
          go_simp
        refine wpMix_take (v := .bool b) 6 (by rfl) (by kernel_rfl) ⟨by rfl, ?_⟩ ?_
        · rintro W hW
          go_simp
        refine wpMix_take (v := .slice xa n xc) 9 (by rfl) (by kernel_rfl) ⟨by rfl, ?_⟩ ?_
        · rintro W hW
          go_simp
        refine wpMix_take (v := .int .i64 k) 10 (by rfl) (by kernel_rfl) ⟨by rfl, ?_⟩ ?_
        · rintro W hW
          go_simp
        refine wpMix_take (v := z.v) 11 (by rfl) (by kernel_rfl) ⟨by rfl, ?_⟩ ?_
        · rintro W hW
          exact G2.out _ _ _ _ W (by rfl) (by rfl) (by rfl)
        clear G1 G2 hbz
        refine wpMix_two 0 7 (by kernel_rfl) trivial ?_ ?_
        · refine mOp_value (v := .slice (some ⟨W0.heap.size, 0, none⟩) 0 0) (w' := W0.alloc (.cells #[] 4)) (by rfl) (by rfl) ?_ ?_
          · go_simp
          have O1 : OwnB w (W0.alloc (.cells #[] 4)) (.slice (some ⟨W0.heap.size, 0, none⟩) 0 0) [] := OwnB.base E0.out (OwnB.empty W0)
          have S1 : W0.heap.size < (W0.alloc (.cells #[] 4)).heap.size := by rw [World.size_alloc]; omega
          generalize (W0.alloc (.cells #[] 4)) = W1 at *
          refine wpMix_two 4 7 (by kernel_rfl) trivial ?_ ?_
          · obtain ⟨v4, W4, r4, o4, -⟩ := run_appendBits 22 w _ _ [] O1 y (D1.out _ O1.1) (by have := M1.out; simp; omega)
            rw [List.nil_append] at o4
            refine mOp_value (v := v4) (w' := W4) (by rfl) (by rfl) ?_ ?_
            · exact exec_append _ _ (.tmp 19) (.tmp 22) 22 (by rfl) _ _ v4 W1 W4 (by simp [Act.eval, Act.put]) (by simp [Act.eval, Act.put]) r4
            clear r4 O1 E0 S1
            refine wpMix_only 7 (by kernel_rfl) trivial ?_
            refine mOp_value (v := .slice (some ⟨W4.heap.size, 0, none⟩) 1 1) (w' := W4.alloc (.cells #[.bool b] 4)) (by rfl) (by rfl) ?_ ?_
            · go_simp
            have b4 : Bits (W4.alloc (.cells #[.bool b] 4)) ⟨some ⟨W4.heap.size, 0, none⟩, 1, [b]⟩ := Row.bits (l := [b]) (heap_alloc_new W4 _) (by unfold maxLen; simp)
            have o4 := o4.ext ((Ext.refl W4).alloc (.cells #[.bool b] 4))
            generalize hW5 : (W4.alloc (.cells #[.bool b] 4)) = W5 at *
            clear hW5
            obtain ⟨v8, W8, r8, o8, -⟩ := run_appendBits 22 w _ _ _ o4 ⟨_, 1, [b]⟩ b4 (by have := M1.out; simp; omega)
            obtain ⟨v12, W12, r12, o12, -⟩ := run_appendBits 22 w _ _ _ o8 z (D2.out _ o8.1) (by have := M1.out; have := M2.out; simp; omega)
            rw [HW'.out] at o12
            obtain ⟨u, rfl, hul, hub⟩ := o12.bits
            have E12 : Hid (Ext w W12) := o12.1
            have UL : Hid (u.l = R) := hul
            have UB : Hid (Bits W12 u) := hub
            have c5 : Hid (Calls Try.prog 10 #[u.v] W12 fun e w' => e = .returned (.int .i64 (sm R : Nat)) ∧ w' = W12) := CP.out u W12 hul hub
            clear o12 o8 o4 b4 hul hub CP
            refine wpMix_only 8 (by kernel_rfl) trivial ?_
            refine mOp_value (v := v8) (w' := W8) (by rfl) (by rfl) ?_ ?_
            · exact exec_append _ _ (.tmp 23) (.tmp 26) 22 (by rfl) _ _ v8 W5 W8 (by simp [Act.eval, Act.put]) (by simp [Act.eval, Act.put]) r8
            refine wpMix_only 12 (by kernel_rfl) trivial ?_
            refine mOp_value (v := u.v) (w' := W12) (by rfl) (by rfl) ?_ ?_
            · exact exec_append _ _ (.tmp 27) (.tmp 30) 22 (by rfl) _ _ u.v W8 W12 (by simp [Act.eval, Act.put]) (by simp [Act.eval, Act.put]) r12
            clear r8 r12
            refine wpMix_lastv (v := u.v) (w' := W12) 13 (by kernel_rfl) (by kernel_rfl) (by rfl) (by rfl) trivial ?_ trivial ?_
            · go_simp
            simp only [Act.put, List.setIfInBounds_toArray, List.set_cons_zero, List.set_cons_succ]
            generalize sm R = r at *
            go_wp2_with fail
            refine c5.out.mono ?_
            rintro e w5 ⟨rfl, rfl⟩
            clear c5
            by_cases h : r = a
            · have hz : ((r : Int) == (a : Int)) = true := by rw [h]; simp
              have hF := FU'.out h
              subst h
              go_wp2
              go_ret2
              exact ⟨u, rfl, by rw [UL.out, hF], UB.out, E12.out⟩
            · have hz : ((r : Int) == (a : Int)) = false := by rw [beq_eq_false_iff_ne]; omega
              have hN := NX'.out h
              go_wp2
              go_roundg (2 - (j + 1))
              case measure => omega
              case rel => exact ⟨j + 1, by omega, by omega, by go_num, E12.out, hN⟩
          · refine mOp_value (v := .slice (some ⟨W1.heap.size, 0, none⟩) 1 1) (w' := W1.alloc (.cells #[.bool b] 4)) (by rfl) (by rfl) ?_ ?_
            · go_simp
            have b7 : Row (W1.alloc (.cells #[.bool b] 4)) W1.heap.size 4 (bv [b]) := heap_alloc_new W1 _
            have O2 := O1.ext ((Ext.refl W1).alloc (.cells #[.bool b] 4))
            generalize hW5 : (W1.alloc (.cells #[.bool b] 4)) = W5 at *
            obtain ⟨v4, W4, r4, o4, k4⟩ := run_appendBits 22 w _ _ [] O2 y (D1.out _ O2.1) (by have := M1.out; simp; omega)
            rw [List.nil_append] at o4
            have b4 : Bits W4 ⟨some ⟨W1.heap.size, 0, none⟩, 1, [b]⟩ := Row.bits (l := [b]) (k4 _ _ _ b7 (by simp only [Value.ownBlock, ne_eq, Option.some.injEq]; omega)) (by unfold maxLen; simp)
            clear k4 b7 O1 O2 hW5 E0
            refine wpMix_only 4 (by kernel_rfl) trivial ?_
            refine mOp_value (v := v4) (w' := W4) (by rfl) (by rfl) ?_ ?_
            · exact exec_append _ _ (.tmp 19) (.tmp 22) 22 (by rfl) _ _ v4 W5 W4 (by simp [Act.eval, Act.put]) (by simp [Act.eval, Act.put]) r4
            clear r4 S1
            obtain ⟨v8, W8, r8, o8, -⟩ := run_appendBits 22 w _ _ _ o4 ⟨_, 1, [b]⟩ b4 (by have := M1.out; simp; omega)
            obtain ⟨v12, W12, r12, o12, -⟩ := run_appendBits 22 w _ _ _ o8 z (D2.out _ o8.1) (by have := M1.out; have := M2.out; simp; omega)
            rw [HW'.out] at o12
            obtain ⟨u, rfl, hul, hub⟩ := o12.bits
            have E12 : Hid (Ext w W12) := o12.1
            have UL : Hid (u.l = R) := hul
            have UB : Hid (Bits W12 u) := hub
            have c5 : Hid (Calls Try.prog 10 #[u.v] W12 fun e w' => e = .returned (.int .i64 (sm R : Nat)) ∧ w' = W12) := CP.out u W12 hul hub
            clear o12 o8 o4 b4 hul hub CP
            refine wpMix_only 8 (by kernel_rfl) trivial ?_
            refine mOp_value (v := v8) (w' := W8) (by rfl) (by rfl) ?_ ?_
            · exact exec_append _ _ (.tmp 23) (.tmp 26) 22 (by rfl) _ _ v8 W4 W8 (by simp [Act.eval, Act.put]) (by simp [Act.eval, Act.put]) r8
            refine wpMix_only 12 (by kernel_rfl) trivial ?_
            refine mOp_value (v := u.v) (w' := W12) (by rfl) (by rfl) ?_ ?_
            · exact exec_append _ _ (.tmp 27) (.tmp 30) 22 (by rfl) _ _ u.v W8 W12 (by simp [Act.eval, Act.put]) (by simp [Act.eval, Act.put]) r12
            clear r8 r12
            refine wpMix_lastv (v := u.v) (w' := W12) 13 (by kernel_rfl) (by kernel_rfl) (by rfl) (by rfl) trivial ?_ trivial ?_
            · go_simp
            simp only [Act.put, List.setIfInBounds_toArray, List.set_cons_zero, List.set_cons_succ]
            generalize sm R = r at *
            go_wp2_with fail
            refine c5.out.mono ?_
            rintro e w5 ⟨rfl, rfl⟩
            clear c5
            by_cases h : r = a
            · have hz : ((r : Int) == (a : Int)) = true := by rw [h]; simp
              have hF := FU'.out h
              subst h
              go_wp2
              go_ret2
              exact ⟨u, rfl, by rw [UL.out, hF], UB.out, E12.out⟩
            · have hz : ((r : Int) == (a : Int)) = false := by rw [beq_eq_false_iff_ne]; omega
              have hN := NX'.out h
              go_wp2
              go_roundg (2 - (j + 1))
              case measure => omega
              case rel => exact ⟨j + 1, by omega, by omega, by go_num, E12.out, hN⟩
        · refine mOp_value (v := .slice (some ⟨W0.heap.size, 0, none⟩) 1 1) (w' := W0.alloc (.cells #[.bool b] 4)) (by rfl) (by rfl) ?_ ?_
          · go_simp
          have b7 : Row (W0.alloc (.cells #[.bool b] 4)) W0.heap.size 4 (bv [b]) := heap_alloc_new W0 _
          have E1 : Ext w (W0.alloc (.cells #[.bool b] 4)) := E0.out.alloc _
          have S1 : W0.heap.size < (W0.alloc (.cells #[.bool b] 4)).heap.size := by rw [World.size_alloc]; omega
          generalize (W0.alloc (.cells #[.bool b] 4)) = W1 at *
          refine wpMix_only 0 (by kernel_rfl) trivial ?_
          refine mOp_value (v := .slice (some ⟨W1.heap.size, 0, none⟩) 0 0) (w' := W1.alloc (.cells #[] 4)) (by rfl) (by rfl) ?_ ?_
          · go_simp
          have O2 : OwnB w (W1.alloc (.cells #[] 4)) (.slice (some ⟨W1.heap.size, 0, none⟩) 0 0) [] := OwnB.base E1 (OwnB.empty W1)
          have b7 := b7.ext ((Ext.refl W1).alloc (.cells #[] 4))
          generalize hW5 : (W1.alloc (.cells #[] 4)) = W5 at *
          obtain ⟨v4, W4, r4, o4, k4⟩ := run_appendBits 22 w _ _ [] O2 y (D1.out _ O2.1) (by have := M1.out; simp; omega)
          rw [List.nil_append] at o4
          have b4 : Bits W4 ⟨some ⟨W0.heap.size, 0, none⟩, 1, [b]⟩ := Row.bits (l := [b]) (k4 _ _ _ b7 (by simp only [Value.ownBlock, ne_eq, Option.some.injEq]; omega)) (by unfold maxLen; simp)
          clear k4 b7 O2 hW5 E0 E1
          refine wpMix_only 4 (by kernel_rfl) trivial ?_
          refine mOp_value (v := v4) (w' := W4) (by rfl) (by rfl) ?_ ?_
          · exact exec_append _ _ (.tmp 19) (.tmp 22) 22 (by rfl) _ _ v4 W5 W4 (by simp [Act.eval, Act.put]) (by simp [Act.eval, Act.put]) r4
          clear r4 S1
          obtain ⟨v8, W8, r8, o8, -⟩ := run_appendBits 22 w _ _ _ o4 ⟨_, 1, [b]⟩ b4 (by have := M1.out; simp; omega)
          obtain ⟨v12, W12, r12, o12, -⟩ := run_appendBits 22 w _ _ _ o8 z (D2.out _ o8.1) (by have := M1.out; have := M2.out; simp; omega)
          rw [HW'.out] at o12
          obtain ⟨u, rfl, hul, hub⟩ := o12.bits
          have E12 : Hid (Ext w W12) := o12.1
          have UL : Hid (u.l = R) := hul
          have UB : Hid (Bits W12 u) := hub
          have c5 : Hid (Calls Try.prog 10 #[u.v] W12 fun e w' => e = .returned (.int .i64 (sm R : Nat)) ∧ w' = W12) := CP.out u W12 hul hub
          clear o12 o8 o4 b4 hul hub CP
          refine wpMix_only 8 (by kernel_rfl) trivial ?_
          refine mOp_value (v := v8) (w' := W8) (by rfl) (by rfl) ?_ ?_
          · exact exec_append _ _ (.tmp 23) (.tmp 26) 22 (by rfl) _ _ v8 W4 W8 (by simp [Act.eval, Act.put]) (by simp [Act.eval, Act.put]) r8
          refine wpMix_only 12 (by kernel_rfl) trivial ?_
          refine mOp_value (v := u.v) (w' := W12) (by rfl) (by rfl) ?_ ?_
          · exact exec_append _ _ (.tmp 27) (.tmp 30) 22 (by rfl) _ _ u.v W8 W12 (by simp [Act.eval, Act.put]) (by simp [Act.eval, Act.put]) r12
          clear r8 r12
          refine wpMix_lastv (v := u.v) (w' := W12) 13 (by kernel_rfl) (by kernel_rfl) (by rfl) (by rfl) trivial ?_ trivial ?_
          · go_simp
          simp only [Act.put, List.setIfInBounds_toArray, List.set_cons_zero, List.set_cons_succ]
          generalize sm R = r at *
          go_wp2_with fail
          refine c5.out.mono ?_
          rintro e w5 ⟨rfl, rfl⟩
          clear c5
          by_cases h : r = a
          · have hz : ((r : Int) == (a : Int)) = true := by rw [h]; simp
            have hF := FU'.out h
            subst h
            go_wp2
            go_ret2
            exact ⟨u, rfl, by rw [UL.out, hF], UB.out, E12.out⟩
          · have hz : ((r : Int) == (a : Int)) = false := by rw [beq_eq_false_iff_ne]; omega
            have hN := NX'.out h
            go_wp2
            go_roundg (2 - (j + 1))
            case measure => omega
            case rel => exact ⟨j + 1, by omega, by omega, by go_num, E12.out, hN⟩

end Go.Proofs.Ytofdinddloejbaa
