/-
  For any data and any place: with the bit there turned they are told, and the place; without any, too: HammOne returns true for every number, every list of bits and every byte, and changes nothing.
-/
import Derived.Test.YtdplmaofapnhhaaOpen
import Derived.Test.YtdplmaofapnhhaaFac
import Derived.Test.YtdplmaofapnhhaaTrn
import Derived.Test.YtdplmaofapnhhaaLw
namespace Go.Proofs.Ytdplmaofapnhhaa
open Go.ChangeShapes Go.WideShapes Go.ChangeAt Go.RowKit Go.Deep
set_option linter.unusedVariables false

theorem hammOne_bad (r : Int) (x : Wd) (k : Int) (w : World) (h : cke r x.l.length (-r) ≠ 0) : Calls Try.prog 7 #[.int .i64 r, x.v, .int .u8 k] w fun e w' => e = .returned (.bool true) ∧ Ext w w' := by
  have c1 := Put_bad r x h w
  have hb : (cke r x.l.length (-r) == 0) = false := beq_eq_false_iff_ne.2 h
  by_cases hr : 2 ≤ r ∧ r ≤ 4
  · obtain ⟨m, rfl⟩ := Int.eq_ofNat_of_zero_le (show 0 ≤ r by omega)
    have hm : R m := by unfold R; omega
    have pw := pow_five m hm
    have hne0 : (x.l.length : Int) ≠ ((2 ^ m - 1 : Nat) : Int) - (m : Int) := fun e => h (cke_good hm (by
      have : 1 ≤ 2 ^ m := Nat.two_pow_pos m
      omega))
    have hne : ((x.l.length : Int) != ((2 ^ m - 1 : Nat) : Int) - (m : Int)) = true := bne_iff_ne.2 hne0
    have h15 : 2 ^ m - 1 ≤ 15 := by obtain rfl | rfl | rfl := hm.cases <;> decide
    have hE : Hid (cke (m : Int) x.l.length (-(m : Int)) ≠ 0) := h
    generalize cke (m : Int) x.l.length (-(m : Int)) = E at *
    simp only [Wd.v] at *
    generalize 2 ^ m - 1 = n at *
    clear hm h
    go_enter Try.func7, Try.ntmps7
    go_wp2_with fail
    refine c1.mono ?_
    rintro e w1 ⟨rfl, rfl⟩
    clear c1
    go_wp2
    go_ret
    exact ⟨ret_bool (bne_iff_ne.2 hE.out), Ext.refl _⟩
  · have hE : Hid (cke r x.l.length (-r) ≠ 0) := h
    generalize cke r x.l.length (-r) = E at *
    simp only [Wd.v] at *
    clear h
    rcases Int.lt_or_le r 2 with h' | h'
    · clear hr
      go_enter Try.func7, Try.ntmps7
      go_wp2_with fail
      refine c1.mono ?_
      rintro e w1 ⟨rfl, rfl⟩
      clear c1
      go_wp2
      go_ret
      exact ⟨ret_bool (bne_iff_ne.2 hE.out), Ext.refl _⟩
    · have h2 : 4 < r := by omega
      clear hr
      go_enter Try.func7, Try.ntmps7
      go_wp2_with fail
      refine c1.mono ?_
      rintro e w1 ⟨rfl, rfl⟩
      clear c1
      go_wp2
      go_ret
      exact ⟨ret_bool (bne_iff_ne.2 hE.out), Ext.refl _⟩

theorem one_facts {r : Nat} (hr : R r) (d : List Bool) (hd : d.length = 2 ^ r - 1 - r) (i : Nat) (hi : i < 2 ^ r - 1) : pf 1 (tn (hp r d) i) = i + 1 ∧ dt 1 (fx (tn (hp r d) i)) = d ∧ pf 1 (hp r d) = 0 ∧ dt 1 (fx (hp r d)) = d := by
  obtain ⟨h1, h2⟩ := fx_turn hr d i hi
  refine ⟨h1, ?_, pf_hp hr d, ?_⟩
  · show dt 1 (fx ((hp r d).set i _)) = d
    rw [h2, dt_hp hr d hd]
  · rw [fx_hp hr, dt_hp hr d hd]

set_option maxHeartbeats 4000000 in
theorem hammOne_good {r : Nat} (hr : R r) (x : Wd) (k : Nat) (hk : k < 256) (w : World) (hd : x.l.length = 2 ^ r - 1 - r) (hx : Bits w x) : Calls Try.prog 7 #[.int .i64 r, x.v, .int .u8 k] w fun e w' => e = .returned (.bool true) ∧ Ext w w' := by
  have h15 : 3 ≤ 2 ^ r - 1 ∧ 2 ^ r - 1 ≤ 15 := by obtain rfl | rfl | rfl := hr.cases <;> decide
  have hr4 : 2 ≤ r ∧ r ≤ 4 := hr
  have c1 := Put_good hr x hd w hx
  have pw := pow_five r hr
  have hm := rem_at k (2 ^ r - 1)
  have hi : k % (2 ^ r - 1) < 2 ^ r - 1 := Nat.mod_lt _ (by omega)
  obtain ⟨i, hii⟩ : ∃ i, k % (2 ^ r - 1) = i := ⟨_, rfl⟩
  rw [hii] at hm hi
  clear hii
  have FA : Hid (pf 1 (tn (hp r x.l) i) = i + 1 ∧ dt 1 (fx (tn (hp r x.l) i)) = x.l ∧ pf 1 (hp r x.l) = 0 ∧ dt 1 (fx (hp r x.l)) = x.l) := one_facts hr x.l hd i hi
  have HL : Hid ((hp r x.l).length = 2 ^ r - 1) := hp_len _ _
  have HT : Hid (∀ (z : Wd) W, z.l.length = 2 ^ r - 1 → Bits W z → Calls Try.prog 18 #[z.v, .slice (some ⟨W.heap.size, 0, none⟩) 1 1] (W.alloc (.cells #[.int .i64 (i : Nat)] 3)) fun e w' => ∃ v, e = .returned v ∧ OwnB W w' v (tn z.l i)) := fun z W h hb => turned_one z (by omega) (by omega) i (by omega) W hb
  have HF : Hid (∀ (z : Wd) W, z.l.length = 2 ^ r - 1 → Bits W z → Calls Try.prog 13 #[.int .i64 r, z.v] W fun e w' => ∃ v, e = .returned (.tuple #[v, .int .i64 (pf 1 z.l : Nat), .int .i64 0]) ∧ OwnB W w' v (dt 1 (fx z.l))) := fun z W h hb => Fix_good hr z h W hb
  have BX : Hid (∀ (y : Wd) W, y.l = x.l → Bits W y → Ext w W → Calls Try.prog 11 #[y.v, .slice x.a (2 ^ r - 1 - r) x.c] W fun e w' => e = .returned (.bool true) ∧ Qt W w') := fun y W h hb e => by
    have := bools_any y x W hb (hx.ext e)
    rw [h, beq_self_eq_true] at this
    have hv : x.v = .slice x.a (2 ^ r - 1 - r) x.c := by rw [Wd.v, hd]
    rw [← hv]
    exact this
  have h1 := hx.1
  have h2 := hx.2.1
  simp only [Wd.v] at c1 ⊢
  rw [hd] at c1 h1 ⊢
  unfold maxLen at h2
  have HD : Hid (((2 ^ r - 1 - r : Nat) : Int) = ((2 ^ r - 1 : Nat) : Int) - (r : Int)) := by
    have : r ≤ 2 ^ r - 1 := by obtain rfl | rfl | rfl := hr.cases <;> decide
    show _ = _
    omega
  clear hr
  generalize hp r x.l = H at *
  generalize 2 ^ r - 1 = n at *
  have hDn := HD.out
  generalize n - r = D at *
  clear HD hx hd
  go_enter Try.func7, Try.ntmps7
  go_wp2_with fail
  refine c1.mono ?_
  rintro e w1 ⟨v1, rfl, O1⟩
  obtain ⟨⟨a1, cc1, l1⟩, rfl, hl1, hb1⟩ := O1.bits
  simp only at hl1
  subst hl1
  have HB1 : Hid (Bits w1 ⟨a1, cc1, l1⟩) := hb1
  have E1 : Hid (Ext w w1) := O1.1
  have hcc1 : n ≤ cc1 := by rw [← HL.out]; exact hb1.1
  have hcc2 := hb1.2.1
  unfold maxLen at hcc2
  simp only [Wd.v]
  rw [HL.out]
  clear c1 O1 hb1
  have k2 := HT.out ⟨a1, cc1, l1⟩ w1 HL.out HB1.out
  simp only [Wd.v] at k2
  rw [HL.out] at k2
  go_wp2_with fail
  refine k2.mono ?_
  rintro e w2 ⟨v2, rfl, O2⟩
  obtain ⟨y2, rfl, hy2, hb2⟩ := O2.bits
  have k3 := HF.out y2 w2 (by rw [hy2, tn_len]; exact HL.out) hb2
  rw [hy2, FA.out.1] at k3
  have E2 : Hid (Ext w1 w2) := O2.1
  clear k2 O2 hb2 HT
  generalize y2.v = v2 at *
  clear hy2 y2
  go_wp2_with fail
  refine k3.mono ?_
  rintro e w3 ⟨v3, rfl, O3⟩
  obtain ⟨y3, rfl, hy3, hb3⟩ := O3.bits
  have HY3 : Hid (y3.l = x.l ∧ Bits w3 y3) := ⟨by rw [hy3]; exact FA.out.2.1, hb3⟩
  have E3 : Hid (Ext w1 w3) := E2.out.trans O3.1
  have k4 := HF.out ⟨a1, cc1, l1⟩ w3 HL.out (HB1.out.ext E3.out)
  simp only [Wd.v] at k4
  rw [HL.out, FA.out.2.2.1] at k4
  clear k3 O3 hb3 HF hy3 E2
  obtain ⟨v3, hv3⟩ : ∃ v, y3.v = v := ⟨_, rfl⟩
  rw [hv3]
  have HV3 : Hid (y3.v = v3) := hv3
  clear hv3
  go_wp2_with fail
  refine k4.mono ?_
  rintro e w4 ⟨v4, rfl, O4⟩
  obtain ⟨y4, rfl, hy4, hb4⟩ := O4.bits
  have HY4 : Hid (y4.l = x.l ∧ Bits w4 y4) := ⟨by rw [hy4]; exact FA.out.2.2.2, hb4⟩
  have E4 : Hid (Ext w w4) := (E1.out.trans E3.out).trans O4.1
  have k5 := BX.out y3 w4 HY3.out.1 (HY3.out.2.ext O4.1) E4.out
  rw [HV3.out] at k5
  clear k4 O4 hb4 hy4 E1 HB1 HL FA E3
  obtain ⟨v4, hv4⟩ : ∃ v, y4.v = v := ⟨_, rfl⟩
  rw [hv4]
  have HV4 : Hid (y4.v = v4) := hv4
  clear hv4
  go_wp2_with fail
  refine k5.mono ?_
  rintro e w5 ⟨rfl, q5⟩
  have E5 : Hid (Ext w w5) := E4.out.trans q5.ext
  have k6 := BX.out y4 w5 HY4.out.1 (HY4.out.2.ext q5.ext) E5.out
  rw [HV4.out] at k6
  clear k5 q5 E4 HY3 HY4 BX
  go_wp2_with fail
  refine k6.mono ?_
  rintro e w6 ⟨rfl, q6⟩
  have E6 : Hid (Ext w w6) := E5.out.trans q6.ext
  clear k6 q6 E5
  go_wp2
  go_ret
  exact ⟨rfl, E6.out⟩

theorem hammOne_walk (r : Int) (x : Wd) (k : Int) (hk : (Lit.int .u8 k).wf = true) (w : World) (hx : Bits w x) : Calls Try.prog 7 #[.int .i64 r, x.v, .int .u8 k] w fun e w' => e = .returned (.bool true) ∧ Ext w w' := by
  obtain ⟨h0, h1⟩ := u8_of hk
  by_cases h : cke r x.l.length (-r) = 0
  · obtain ⟨m, rfl, hr, hn⟩ := of_cke h
    obtain ⟨k, rfl⟩ := Int.eq_ofNat_of_zero_le h0
    exact hammOne_good hr x k (by omega) w ((len_data hr).1 hn) hx
  · exact hammOne_bad r x k w h

set_option maxRecDepth 100000 in
theorem hammOne_lifted (os : Os) (started : os.Started) (H : Type) (enc : TypeId × Value → H) :
    ReturnsInHanded {} Try.checked os 7 .any (Rows.hammOneSpec.pre6 enc Try.prog Try.f7 Rows.hammOneRow.domain false) (Rows.hammOneSpec.post enc Try.prog Try.f7 false true false false) := by
  refine returnsInHanded_of_change (C := Try.checked) own started (by kernel_rfl) Try.func7
    (ChangeSpec.witness6 (enc := enc) (C := Try.checked) false ⟨#[], #[.int .i64 0, .slice none 0 0, .int .u8 0], []⟩ 8 (by kernel_rfl) (by kernel_rfl) (by kernel_rfl) (by kernel_rfl)) ?_
  intro W base args ds gs before hval0 hW _ _
  have hval : ∀ (j : Nat) t v, Try.f7.params[j]? = some t → args[j]? = some v → Value.okWide Try.prog W .any base t v := hval0
  have hW' := hW
  obtain ⟨p, q, hA0, hV, rfl, hfz, hnd⟩ := hW
  have hA : DataW.TrodAll enc Try.prog W 0 (fun _ => true) true Try.f7.params.toList args.toList ds p := hA0
  rw [Try.params7] at hA hval
  obtain ⟨v0, vs0, d0, ds0, p0, q0, hargs, rfl, rfl, h0, r0⟩ := trodAll_cons hA
  obtain ⟨v1, vs1, d1, ds1, p1, q1, rfl, rfl, rfl, h1, r1⟩ := trodAll_cons r0
  obtain ⟨v2, vs2, d2, ds2, p2, q2, rfl, rfl, rfl, h2, r2⟩ := trodAll_cons r1
  obtain ⟨rfl, rfl, rfl⟩ := trodAll_nil r2
  obtain rfl : args = #[v0, v1, v2] := by cases args; simp_all
  obtain ⟨rfl, rfl⟩ := trodVars_none hV
  have lt0 : ∀ x ∈ p0, x.block < W.heap.size := by obtain ⟨m, hm⟩ := h0; exact DataW.trod_lt m _ _ _ hm
  obtain ⟨x0, rfl, -, -, wf0⟩ := open_int Try.underlying3 (hval 0 3 v0 rfl rfl) h0
  have lt1 : ∀ x ∈ p1, x.block < W.heap.size := by obtain ⟨m, hm⟩ := h1; exact DataW.trod_lt m _ _ _ hm
  obtain ⟨x1, rfl, w1⟩ := open_word (hval 1 22 v1 rfl rfl) h1
  have lt2 : ∀ x ∈ p2, x.block < W.heap.size := by obtain ⟨m, hm⟩ := h2; exact DataW.trod_lt m _ _ _ hm
  obtain ⟨x2, rfl, -, -, wf2⟩ := open_int Try.underlying5 (hval 2 5 v2 rfl rfl) h2
  clear hA0 hval0
  refine (hammOne_walk x0 x1 x2 wf2 W w1).mono fun e W' ⟨he, bel⟩ => ?_
  subst he
  exact ⟨_, rfl, _, _, _, [], _, [], hW', trodAll_mk1 (shut_bool Try.underlying4 _), (trodAll_cons_mk (Below.trod laidOut (by kernel_rfl) (of_decide_eq_true (by kernel_rfl)) h0 bel lt0) (trodAll_cons_mk (Below.trod laidOut (by kernel_rfl) (of_decide_eq_true (by kernel_rfl)) h1 bel lt1) (trodAll_cons_mk (Below.trod laidOut (by kernel_rfl) (of_decide_eq_true (by kernel_rfl)) h2 bel lt2) trodAll_mk0))), rfl, bel.frame _, fun h => by cases h⟩

theorem hammOne_holds : Rows.HammOneSaid :=
  OpenClaim.holds_of_wide 7 Try.f7 rfl rfl rfl rfl rfl rfl rfl ⟨rfl, rfl, rfl, rfl, rfl⟩ rfl rfl rfl rfl rfl (by kernel_rfl) Try.func7 (by kernel_rfl)
    (of_decide_eq_true (by kernel_rfl)) (by unfold Func.isWrapper; rw [if_neg (of_decide_eq_false (by kernel_rfl))]; exact ⟨rfl, rfl⟩)
    (fun os started H enc _ => hammOne_lifted os started H enc)

#print axioms hammOne_holds

end Go.Proofs.Ytdplmaofapnhhaa
