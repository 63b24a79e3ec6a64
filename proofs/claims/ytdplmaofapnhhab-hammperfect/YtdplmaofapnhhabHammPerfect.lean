/-
  For any bits: they are what is put for some data, with one bit turned at most: HammPerfect returns true for every number and every list of bits, and changes nothing.
-/
import Derived.Test.YtdplmaofapnhhabOpen
import Derived.Test.YtdplmaofapnhhabFac
import Derived.Test.YtdplmaofapnhhabLw
namespace Go.Proofs.Ytdplmaofapnhhab
open Go.ChangeShapes Go.WideShapes Go.ChangeAt Go.RowKit Go.Deep
set_option linter.unusedVariables false

theorem hammPerfect_bad (r : Int) (x : Wd) (w : World) (h : cke r x.l.length 0 ≠ 0) : Calls Try.prog 3 #[.int .i64 r, x.v] w fun e w' => e = .returned (.bool true) ∧ Ext w w' := by
  have c1 := Fix_bad r x h w
  have hb : (cke r x.l.length 0 == 0) = false := beq_eq_false_iff_ne.2 h
  by_cases hr : 2 ≤ r ∧ r ≤ 4
  · obtain ⟨m, rfl⟩ := Int.eq_ofNat_of_zero_le (show 0 ≤ r by omega)
    have hm : R m := by unfold R; omega
    have pw := pow_five m hm
    have hne0 : (x.l.length : Int) ≠ ((2 ^ m - 1 : Nat) : Int) := fun e => h (cke_good hm (by
      have : 1 ≤ 2 ^ m := Nat.two_pow_pos m
      omega))
    have hne : ((x.l.length : Int) != ((2 ^ m - 1 : Nat) : Int)) = true := bne_iff_ne.2 hne0
    have h15 : 2 ^ m - 1 ≤ 15 := by obtain rfl | rfl | rfl := hm.cases <;> decide
    have hE : Hid (cke (m : Int) x.l.length 0 ≠ 0) := h
    generalize cke (m : Int) x.l.length 0 = E at *
    simp only [Wd.v] at *
    generalize 2 ^ m - 1 = n at *
    clear hm h
    go_enter Try.func3, Try.ntmps3
    go_wp2_with fail
    refine c1.mono ?_
    rintro e w1 ⟨rfl, rfl⟩
    clear c1
    go_wp2
    go_ret
    exact ⟨ret_bool (bne_iff_ne.2 hE.out), Ext.refl _⟩
  · have hE : Hid (cke r x.l.length 0 ≠ 0) := h
    generalize cke r x.l.length 0 = E at *
    simp only [Wd.v] at *
    clear h
    rcases Int.lt_or_le r 2 with h' | h'
    · clear hr
      go_enter Try.func3, Try.ntmps3
      go_wp2_with fail
      refine c1.mono ?_
      rintro e w1 ⟨rfl, rfl⟩
      clear c1
      go_wp2
      go_ret
      exact ⟨ret_bool (bne_iff_ne.2 hE.out), Ext.refl _⟩
    · have h2 : 4 < r := by omega
      clear hr
      go_enter Try.func3, Try.ntmps3
      go_wp2_with fail
      refine c1.mono ?_
      rintro e w1 ⟨rfl, rfl⟩
      clear c1
      go_wp2
      go_ret
      exact ⟨ret_bool (bne_iff_ne.2 hE.out), Ext.refl _⟩

set_option maxHeartbeats 4000000 in
theorem hammPerfect_zero {r : Nat} (hr : R r) (x : Wd) (w : World) (hd : x.l.length = 2 ^ r - 1) (hx : Bits w x) (hpp : pf 1 x.l = 0) : Calls Try.prog 3 #[.int .i64 r, x.v] w fun e w' => e = .returned (.bool true) ∧ Ext w w' := by
  have h15 : 3 ≤ 2 ^ r - 1 ∧ 2 ^ r - 1 ≤ 15 := by obtain rfl | rfl | rfl := hr.cases <;> decide
  have hr4 : 2 ≤ r ∧ r ≤ 4 := hr
  have c1 := Fix_good hr x hd w hx
  have pw := pow_five r hr
  have hpl := pf_lt r x.l 1 (by omega)
  have hdl : (dt 1 (fx x.l)).length = 2 ^ r - 1 - r := by rw [dt_len, fx_len, hd, nd_all hr]
  have FA : Hid (hp r (dt 1 (fx x.l)) = fx x.l) := hp_dt hr _ (by rw [fx_len]; exact hd) (pf_fx x.l hd)
  have HP : Hid (∀ (z : Wd) W, z.l = dt 1 (fx x.l) → Bits W z → Calls Try.prog 5 #[.int .i64 r, z.v] W fun e w' => ∃ v, e = .returned (.tuple #[v, .int .i64 0]) ∧ OwnB W w' v (fx x.l)) := fun z W h hb => by
    have := Put_good hr z (by rw [h]; exact hdl) W hb
    rw [h, FA.out] at this
    exact this
  have FL : Hid ((fx x.l).length = 2 ^ r - 1) := by show _ = _; rw [fx_len]; exact hd
  have BX : Hid (∀ (y : Wd) W, y.l = fx x.l → Bits W y → Ext w W → Calls Try.prog 6 #[y.v, .slice x.a (2 ^ r - 1) x.c] W fun e w' => e = .returned (.bool true) ∧ Qt W w') := fun y W h hb e => by
    have := bools_any y x W hb (hx.ext e)
    rw [h, show fx x.l = x.l from if_pos hpp, beq_self_eq_true] at this
    have hv : x.v = .slice x.a (2 ^ r - 1) x.c := by rw [Wd.v, hd]
    rw [← hv]
    exact this
  have h1 := hx.1
  have h2' := hx.2.1
  simp only [Wd.v] at c1 ⊢
  rw [hd] at c1 h1 ⊢
  unfold maxLen at h2'
  clear hr hdl FA
  generalize dt 1 (fx x.l) = D at *
  generalize fx x.l = X at *
  rw [hpp] at c1
  clear hpl hpp
  generalize 2 ^ r - 1 = n at *
  clear hx hd
  go_enter Try.func3, Try.ntmps3
  go_wp2_with fail
  refine c1.mono ?_
  rintro e w1 ⟨v1, rfl, O1⟩
  obtain ⟨y1, rfl, hl1, hb1⟩ := O1.bits
  have k2 := HP.out y1 w1 hl1 hb1
  have E1 : Hid (Ext w w1) := O1.1
  clear c1 O1 hb1 hl1 HP
  generalize y1.v = v1 at *
  go_wp2_with fail
  refine k2.mono ?_
  rintro e w2 ⟨v2, rfl, O2⟩
  obtain ⟨y2, rfl, hy2, hb2⟩ := O2.bits
  have E2 : Hid (Ext w w2) := E1.out.trans O2.1
  have k3 := BX.out y2 w2 hy2 hb2 E2.out
  simp only [Wd.v] at k3 ⊢
  rw [hy2, FL.out] at k3 ⊢
  clear k2 O2 hb2 E1 BX FL hy2
  go_wp2_with fail
  refine k3.mono ?_
  rintro e w3 ⟨rfl, q3⟩
  have E3 : Hid (Ext w w3) := E2.out.trans q3.ext
  clear k3 q3 E2
  go_wp2
  go_ret
  exact ⟨rfl, E3.out⟩

set_option maxHeartbeats 4000000 in
theorem hammPerfect_one {r : Nat} (hr : R r) (x : Wd) (w : World) (hd : x.l.length = 2 ^ r - 1) (hx : Bits w x) (hpp : pf 1 x.l ≠ 0) : Calls Try.prog 3 #[.int .i64 r, x.v] w fun e w' => e = .returned (.bool true) ∧ Ext w w' := by
  have h15 : 3 ≤ 2 ^ r - 1 ∧ 2 ^ r - 1 ≤ 15 := by obtain rfl | rfl | rfl := hr.cases <;> decide
  have hr4 : 2 ≤ r ∧ r ≤ 4 := hr
  have c1 := Fix_good hr x hd w hx
  have pw := pow_five r hr
  have hpl := pf_lt r x.l 1 (by omega)
  have hdl : (dt 1 (fx x.l)).length = 2 ^ r - 1 - r := by rw [dt_len, fx_len, hd, nd_all hr]
  have FA : Hid (hp r (dt 1 (fx x.l)) = fx x.l) := hp_dt hr _ (by rw [fx_len]; exact hd) (pf_fx x.l hd)
  have HP : Hid (∀ (z : Wd) W, z.l = dt 1 (fx x.l) → Bits W z → Calls Try.prog 5 #[.int .i64 r, z.v] W fun e w' => ∃ v, e = .returned (.tuple #[v, .int .i64 0]) ∧ OwnB W w' v (fx x.l)) := fun z W h hb => by
    have := Put_good hr z (by rw [h]; exact hdl) W hb
    rw [h, FA.out] at this
    exact this
  have FL : Hid ((fx x.l).length = 2 ^ r - 1) := by show _ = _; rw [fx_len]; exact hd
  obtain ⟨q, hq⟩ : ∃ q, pf 1 x.l = q + 1 := ⟨pf 1 x.l - 1, by omega⟩
  have FT : Hid (fx x.l = tn x.l q) := by
    show _ = _
    unfold fx tn
    rw [if_neg hpp, hq, Nat.add_sub_cancel]
  have HT : Hid (∀ W, Ext w W → Calls Try.prog 7 #[.slice x.a (2 ^ r - 1) x.c, .slice (some ⟨W.heap.size, 0, none⟩) 1 1] (W.alloc (.cells #[.int .i64 (q : Nat)] 3)) fun e w' => ∃ v, e = .returned v ∧ OwnB W w' v (fx x.l)) := fun W e => by
    have := turned_one x (by omega) (by omega) q (by omega) W (hx.ext e)
    rw [← FT.out] at this
    have hv : x.v = .slice x.a (2 ^ r - 1) x.c := by rw [Wd.v, hd]
    rw [← hv]
    exact this
  have BX : Hid (∀ (y z : Wd) W, y.l = fx x.l → z.l = fx x.l → Bits W y → Bits W z → Calls Try.prog 6 #[y.v, z.v] W fun e w' => e = .returned (.bool true) ∧ Qt W w') := fun y z W h h' hb hb' => by
    have := bools_any y z W hb hb'
    rw [h, h', beq_self_eq_true] at this
    exact this
  have h1 := hx.1
  have h2' := hx.2.1
  simp only [Wd.v] at c1 ⊢
  rw [hd] at c1 h1 ⊢
  unfold maxLen at h2'
  clear hr hdl FA
  generalize dt 1 (fx x.l) = D at *
  generalize fx x.l = X at *
  rw [hq] at c1
  have hq2 : q + 1 ≤ 2 ^ r - 1 := by omega
  clear hpl hpp hq FT
  rw [Int.natCast_add] at c1
  generalize 2 ^ r - 1 = n at *
  clear hx hd
  go_enter Try.func3, Try.ntmps3
  go_wp2_with fail
  refine c1.mono ?_
  rintro e w1 ⟨v1, rfl, O1⟩
  obtain ⟨y1, rfl, hl1, hb1⟩ := O1.bits
  have k2 := HP.out y1 w1 hl1 hb1
  have E1 : Hid (Ext w w1) := O1.1
  clear c1 O1 hb1 hl1 HP
  generalize y1.v = v1 at *
  go_wp2_with fail
  refine k2.mono ?_
  rintro e w2 ⟨v2, rfl, O2⟩
  obtain ⟨y2, rfl, hy2, hb2⟩ := O2.bits
  have E2 : Hid (Ext w w2) := E1.out.trans O2.1
  have HY2 : Hid (y2.l = X ∧ Bits w2 y2) := ⟨hy2, hb2⟩
  have k3 := HT.out w2 E2.out
  have hv2 : y2.v = .slice y2.a n y2.c := by rw [Wd.v, hy2, FL.out]
  rw [hv2]
  have HV : Hid (y2.v = .slice y2.a n y2.c) := hv2
  generalize y2.a = a2 at *
  generalize y2.c = c2 at *
  clear k2 O2 hb2 E1 FL hy2 hv2 HT
  go_wp2_with fail
  refine k3.mono ?_
  rintro e w3 ⟨v3, rfl, O3⟩
  obtain ⟨y3, rfl, hy3, hb3⟩ := O3.bits
  have k4 := BX.out y2 y3 w3 HY2.out.1 hy3 (HY2.out.2.ext O3.1) hb3
  rw [HV.out] at k4
  have E3 : Hid (Ext w w3) := E2.out.trans O3.1
  clear k3 O3 hb3 hy3 E2 BX HV HY2
  generalize y3.v = v3 at *
  go_wp2_with fail
  refine k4.mono ?_
  rintro e w4 ⟨rfl, q4⟩
  have E4 : Hid (Ext w w4) := E3.out.trans q4.ext
  clear k4 q4 E3
  go_wp2
  go_ret
  exact ⟨rfl, E4.out⟩

theorem hammPerfect_walk (r : Int) (x : Wd) (w : World) (hx : Bits w x) : Calls Try.prog 3 #[.int .i64 r, x.v] w fun e w' => e = .returned (.bool true) ∧ Ext w w' := by
  by_cases h : cke r x.l.length 0 = 0
  · obtain ⟨m, rfl, hr, hn⟩ := of_cke h
    have hd := (len_bits hr).1 hn
    by_cases h0 : pf 1 x.l = 0
    · exact hammPerfect_zero hr x w hd hx h0
    · exact hammPerfect_one hr x w hd hx h0
  · exact hammPerfect_bad r x w h

set_option maxRecDepth 100000 in
theorem hammPerfect_lifted (os : Os) (started : os.Started) (H : Type) (enc : TypeId × Value → H) :
    ReturnsInHanded {} Try.checked os 3 .any (Rows.hammPerfectSpec.pre6 enc Try.prog Try.f3 Rows.hammPerfectRow.domain false) (Rows.hammPerfectSpec.post enc Try.prog Try.f3 false true false false) := by
  refine returnsInHanded_of_change (C := Try.checked) own started (by kernel_rfl) Try.func3
    (ChangeSpec.witness6 (enc := enc) (C := Try.checked) false ⟨#[], #[.int .i64 0, .slice none 0 0], []⟩ 8 (by kernel_rfl) (by kernel_rfl) (by kernel_rfl) (by kernel_rfl)) ?_
  intro W base args ds gs before hval0 hW _ _
  have hval : ∀ (j : Nat) t v, Try.f3.params[j]? = some t → args[j]? = some v → Value.okWide Try.prog W .any base t v := hval0
  have hW' := hW
  obtain ⟨p, q, hA0, hV, rfl, hfz, hnd⟩ := hW
  have hA : DataW.TrodAll enc Try.prog W 0 (fun _ => true) true Try.f3.params.toList args.toList ds p := hA0
  rw [Try.params3] at hA hval
  obtain ⟨v0, vs0, d0, ds0, p0, q0, hargs, rfl, rfl, h0, r0⟩ := trodAll_cons hA
  obtain ⟨v1, vs1, d1, ds1, p1, q1, rfl, rfl, rfl, h1, r1⟩ := trodAll_cons r0
  obtain ⟨rfl, rfl, rfl⟩ := trodAll_nil r1
  obtain rfl : args = #[v0, v1] := by cases args; simp_all
  obtain ⟨rfl, rfl⟩ := trodVars_none hV
  have lt0 : ∀ x ∈ p0, x.block < W.heap.size := by obtain ⟨m, hm⟩ := h0; exact DataW.trod_lt m _ _ _ hm
  obtain ⟨x0, rfl, -, -, wf0⟩ := open_int Try.underlying3 (hval 0 3 v0 rfl rfl) h0
  have lt1 : ∀ x ∈ p1, x.block < W.heap.size := by obtain ⟨m, hm⟩ := h1; exact DataW.trod_lt m _ _ _ hm
  obtain ⟨x1, rfl, w1⟩ := open_word (hval 1 22 v1 rfl rfl) h1
  clear hA0 hval0
  refine (hammPerfect_walk x0 x1 W w1).mono fun e W' ⟨he, bel⟩ => ?_
  subst he
  exact ⟨_, rfl, _, _, _, [], _, [], hW', trodAll_mk1 (shut_bool Try.underlying4 _), (trodAll_cons_mk (Below.trod laidOut (by kernel_rfl) (of_decide_eq_true (by kernel_rfl)) h0 bel lt0) (trodAll_cons_mk (Below.trod laidOut (by kernel_rfl) (of_decide_eq_true (by kernel_rfl)) h1 bel lt1) trodAll_mk0)), rfl, bel.frame _, fun h => by cases h⟩

theorem hammPerfect_holds : Rows.HammPerfectSaid :=
  OpenClaim.holds_of_wide 3 Try.f3 rfl rfl rfl rfl rfl rfl rfl ⟨rfl, rfl, rfl, rfl, rfl⟩ rfl rfl rfl rfl rfl (by kernel_rfl) Try.func3 (by kernel_rfl)
    (of_decide_eq_true (by kernel_rfl)) (by unfold Func.isWrapper; rw [if_neg (of_decide_eq_false (by kernel_rfl))]; exact ⟨rfl, rfl⟩)
    (fun os started H enc _ => hammPerfect_lifted os started H enc)

#print axioms hammPerfect_holds

end Go.Proofs.Ytdplmaofapnhhab
