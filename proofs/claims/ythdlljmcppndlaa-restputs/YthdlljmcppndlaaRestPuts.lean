/-
  For any polynomial and any bits the program tells them with their check: RestPuts returns true for every number and every list of bits, and changes nothing.
-/
import Derived.Test.YthdlljmcppndlaaOpen
import Derived.Test.YthdlljmcppndlaaFac
import Derived.Test.YthdlljmcppndlaaRf
import Derived.Test.YthdlljmcppndlaaEq
import Derived.Test.YthdlljmcppndlaaDgt
import Derived.Test.YthdlljmcppndlaaAz
import Derived.ProofKit
namespace Go.Proofs.Ythdlljmcppndlaa
open Go.ChangeShapes Go.WideShapes Go.ChangeAt Go.RowKit Go.Deep
set_option linter.unusedVariables false

theorem u32_of {x : Int} (h : (Lit.int .u32 x).wf = true) : 0 ≤ x ∧ x < 4294967296 := by
  have b : IntKind.u32.min = 0 ∧ IntKind.u32.max = 4294967295 := by decide
  simp only [Lit.wf, b, Bool.and_eq_true, decide_eq_true_eq] at h
  omega

theorem restPuts_bad (g : Nat) (hg : g < 4294967296) (x : Wd) (c : Int) (hc : rce g x.l.length = c) (h : c ≠ 0) (w : World) : Calls Try.prog 4 #[.int .u32 g, x.v] w fun e w' => e = .returned (.bool true) ∧ Ext w w' := by
  have c1 := Put_bad g hg x c hc h w
  have c2 := refCheck_any g hg x.a x.l.length x.c w
  rw [hc] at c2
  have hb : (c != 0) = true := bne_iff_ne.2 h
  have hb2 : (c == 0) = false := beq_eq_false_iff_ne.2 h
  clear hc
  simp only [Wd.v] at *
  generalize x.l.length = n at *
  go_enter Try.func4, Try.ntmps4
  go_wp2_with fail
  refine c1.mono ?_
  rintro e w1 ⟨rfl, rfl⟩
  clear c1
  go_wp2_with fail
  refine c2.mono ?_
  rintro e w1 ⟨rfl, rfl⟩
  clear c2
  go_wp2
  go_ret
  exact ⟨rfl, Ext.refl _⟩

theorem restPuts_large (g : Nat) (hG : G g) (x : Wd) (h : rce g x.l.length = 0) (hl : 64 < x.l.length + g.log2) (hl2 : x.l.length ≤ 64) (w : World) : Calls Try.prog 4 #[.int .u32 g, x.v] w fun e w' => e = .returned (.bool true) ∧ Ext w w' := by
  have hg1 : g ≤ 131071 := hG.2.2
  have hd := hG.deg
  have c1 := Put_large g x hG h hl hl2 w
  have c2 := refCheck_any g (by omega) x.a x.l.length x.c w
  rw [h] at c2
  have c3 := refDegree_any g (by omega) w
  clear h
  simp only [Wd.v] at *
  generalize x.l.length = n at *
  generalize g.log2 = d at *
  have hz : (64 : Int) < (n : Int) + (d : Int) := by omega
  go_enter Try.func4, Try.ntmps4
  go_wp2_with fail
  refine c1.mono ?_
  rintro e w1 ⟨rfl, rfl⟩
  clear c1
  go_wp2_with fail
  refine c2.mono ?_
  rintro e w1 ⟨rfl, rfl⟩
  clear c2
  go_wp2_with fail
  refine c3.mono ?_
  rintro e w1 ⟨rfl, rfl⟩
  clear c3
  go_wp2
  go_ret
  exact ⟨rfl, Ext.refl _⟩

set_option maxHeartbeats 2000000 in
theorem restPuts_good (g : Nat) (hG : G g) (x : Wd) (h : rce g x.l.length = 0) (hl : x.l.length + g.log2 ≤ 64) (w : World) (hx : Bits w x) : Calls Try.prog 4 #[.int .u32 g, x.v] w fun e w' => e = .returned (.bool true) ∧ Ext w w' := by
  have hg1 : g ≤ 131071 := hG.2.2
  have hd := hG.deg
  have c1 := Put_good g x hG h hl w hx
  have c2 : Hid (∀ W : World, Calls Try.prog 10 #[.int .u32 g, .slice x.a x.l.length x.c] W fun e w' => e = .returned (.int .i64 0) ∧ w' = W) := fun W => by
    have := refCheck_any g (by omega) x.a x.l.length x.c W
    rw [h] at this
    exact this
  have c3 : Hid (∀ W : World, Calls Try.prog 13 #[.int .u32 g] W fun e w' => e = .returned (.int .i64 (g.log2 : Nat)) ∧ w' = W) := fun W => refDegree_any g (by omega) W
  obtain ⟨l, hll⟩ : ∃ l, x.l = l := ⟨_, rfl⟩
  obtain ⟨r, hr⟩ : ∃ r, rs g (l ++ List.replicate g.log2 false) = r := ⟨_, rfl⟩
  have hr16 : r < 65536 := by rw [← hr]; exact rs_small hG _
  have c4 : Hid (∀ (y : Wd) (W : World), y.l = l ++ List.replicate g.log2 false → Bits W y → Calls Try.prog 11 #[.int .u32 g, y.v] W fun e w' => e = .returned (.int .u32 r) ∧ Ext W w') := fun y W hy hb => by
    have := refRest_any g hG y (by rw [hy, List.length_append, List.length_replicate, ← hll]; omega) W hb
    rw [hy, hr] at this
    exact this
  have c5 : Hid (∀ W : World, Calls Try.prog 15 #[.int .i64 r, .int .i64 g.log2] W fun e w' => ∃ B : Nat, e = .returned (.slice (some ⟨B, 0, none⟩) g.log2 g.log2) ∧ Bits w' ⟨some ⟨B, 0, none⟩, g.log2, dg r g.log2⟩ ∧ Ext W w') := fun W => by
    refine (digits_any r g.log2 (by omega) (by omega) W).mono ?_
    rintro e w' ⟨⟨B, rfl, hR⟩, E⟩
    have := hR.bits (by rw [dg_length]; unfold maxLen; omega)
    rw [dg_length] at this
    exact ⟨B, rfl, this, E⟩
  have c6 : Hid (∀ (y z : Wd) (W : World), y.l = pt g l → z.l = l ++ dg r g.log2 → Bits W y → Bits W z → Calls Try.prog 14 #[y.v, z.v] W fun e w' => e = .returned (.bool true) ∧ Ext W w') := fun y z W hy hz h h' => by
    refine (bools_any y z W h h').mono ?_
    rintro e w' ⟨rfl, q⟩
    refine ⟨ret_bool ?_, q.ext⟩
    rw [hy, hz, ← hr]
    simp [pt]
  have HL : Hid (([] : List Bool).length + x.l.length ≤ 140737488355328) := by show _ ≤ _; rw [List.length_nil]; omega
  have HZ : Hid (l.length + g.log2 ≤ 1000) := by show _ ≤ _; rw [← hll]; omega
  have HD : Hid (l.length + (dg r g.log2).length ≤ 140737488355328) := by show _ ≤ _; rw [dg_length, ← hll]; omega
  have HDl : Hid ((dg r g.log2).length = g.log2) := dg_length _ _
  have HM : Hid (x.l = l) := hll
  have HX : Hid (Bits w x) := hx
  obtain ⟨n, hn⟩ : ∃ n, x.l.length = n := ⟨_, rfl⟩
  have hv : x.v = .slice x.a n x.c := by rw [Wd.v, hn]
  have HV : Hid (Value.slice x.a n x.c = x.v) := hv.symm
  rw [hv] at c1 ⊢
  rw [hn] at c2 hl
  rw [hll] at c1
  clear hv hx h hr hll hn
  generalize pt g l = R at *
  generalize dg r g.log2 = DD at *
  generalize g.log2 = d at *
  have hd0 : 0 < d := hd.1
  have hz : ¬ (64 : Int) < (n : Int) + (d : Int) := by omega
  go_enter Try.func4, Try.ntmps4
  go_wp2_with fail
  refine c1.mono ?_
  rintro e w1 ⟨y, rfl, hy, hb, E1⟩
  have Y1 : Hid (y.l = R ∧ Bits w1 y) := ⟨hy, hb⟩
  have E1' : Hid (Ext w w1) := E1
  obtain ⟨v1, hv1⟩ : ∃ v, y.v = v := ⟨_, rfl⟩
  have HV1 : Hid (y.v = v1) := hv1
  rw [hv1]
  clear c1 hy hb E1 hv1
  go_wp2_with fail
  refine (c2.out _).mono ?_
  rintro e w2 ⟨rfl, rfl⟩
  clear c2
  go_wp2_with fail
  refine (c3.out _).mono ?_
  rintro e w2 ⟨rfl, rfl⟩
  go_wp2_with fail
  refine (c3.out _).mono ?_
  rintro e w2 ⟨rfl, rfl⟩
  clear c3
  have HX1 : Hid (Bits (w2.alloc (.cells #[] 4)) x) := HX.out.ext (E1'.out.trans ((Ext.refl w2).alloc _))
  have HO1 : Hid (OwnB w2 (w2.alloc (.cells #[] 4)) (.slice (some ⟨w2.heap.size, 0, none⟩) 0 0) []) := OwnB.empty w2
  go_wp2_with (first | (at_builtin; refine wpList_appendZeros rfl _ _ rfl w2 _ va (by rfl) l Oa.out d hd0 (by rfl) HZ.out ?_; clear Oa; intro vb wb Ob; obtain ⟨yb, hvb, hyb, hbb⟩ := Ob.bits; have Yb : Hid (yb.l = l ++ List.replicate d false ∧ Bits wb yb) := ⟨hyb, hbb⟩; have Eb : Hid (Ext w2 wb) := Ob.1; have HVb : Hid (vb = yb.v) := hvb; clear Ob hvb hyb hbb) | (at_builtin; refine wpList_appendBits rfl _ _ rfl w2 _ _ (by rfl) [] HO1.out x (by exact HV.out) HX1.out HL.out ?_; clear HX1 HO1; intro va wa Oa'; rw [List.nil_append, HM.out] at Oa'; have Oa : Hid (OwnB w2 wa va l) := Oa'; clear Oa'))
  have k4 := c4.out yb wb Yb.out.1 Yb.out.2
  rw [← HVb.out] at k4
  clear c4 Yb HVb
  refine k4.mono ?_
  rintro e w4 ⟨rfl, E4⟩
  have E4' : Hid (Ext w w4) := (E1'.out.trans Eb.out).trans E4
  have Y4 : Hid (y.l = R ∧ Bits w4 y) := ⟨Y1.out.1, (Y1.out.2.ext Eb.out).ext E4⟩
  clear k4 E4 Eb Y1 E1'
  have HX4 : Hid (Bits (w4.alloc (.cells #[] 4)) x) := HX.out.ext (E4'.out.trans ((Ext.refl w4).alloc _))
  have HO4 : Hid (OwnB w4 (w4.alloc (.cells #[] 4)) (.slice (some ⟨w4.heap.size, 0, none⟩) 0 0) []) := OwnB.empty w4
  go_wp2_with (at_builtin; refine wpList_met rfl ?_; refine wpList_appendBits rfl _ _ rfl w4 _ _ (by rfl) [] HO4.out x (by exact HV.out) HX4.out HL.out ?_; clear HX4 HO4; intro vc wc Oc'; rw [List.nil_append, HM.out] at Oc'; have Oc : Hid (OwnB w4 wc vc l) := Oc'; clear Oc')
  refine (c5.out wc).mono ?_
  rintro e w5 ⟨B, rfl, hB, E5⟩
  have HB5 : Hid (Bits w5 ⟨some ⟨B, 0, none⟩, d, DD⟩) := hB
  have O5 : Hid (OwnB w4 w5 vc l) := Oc.out.ext E5
  have HV5 : Hid (Value.slice (some ⟨B, 0, none⟩) d d = (⟨some ⟨B, 0, none⟩, d, DD⟩ : Wd).v) := by show _ = _; rw [Wd.v, HDl.out]
  clear c5 hB E5 Oc
  go_wp2_with (at_builtin; refine wpList_met rfl ?_; refine wpList_appendBits rfl _ _ rfl w4 _ vc (by rfl) l O5.out ⟨some ⟨B, 0, none⟩, d, DD⟩ (by exact HV5.out) HB5.out HD.out ?_; clear O5 HB5 HV5; intro vd wd Od; obtain ⟨yd, hvd, hyd, hbd⟩ := Od.bits; have Yd : Hid (yd.l = l ++ DD ∧ Bits wd yd) := ⟨hyd, hbd⟩; have Ed : Hid (Ext w4 wd) := Od.1; have HVd : Hid (vd = yd.v) := hvd; clear Od hvd hyd hbd)
  have k6 := c6.out y yd wd Y4.out.1 Yd.out.1 (Y4.out.2.ext Ed.out) Yd.out.2
  rw [← HVd.out, HV1.out] at k6
  clear c6 Yd HVd Y4 HV1
  refine k6.mono ?_
  rintro e w6 ⟨rfl, E6⟩
  have E6' : Hid (Ext w w6) := (E4'.out.trans Ed.out).trans E6
  clear k6 E6 Ed E4'
  go_wp2
  go_ret
  exact ⟨rfl, E6'.out⟩

theorem restPuts_walk (q : Int) (hq : (Lit.int .u32 q).wf = true) (x : Wd) (w : World) (hx : Bits w x) : Calls Try.prog 4 #[.int .u32 q, x.v] w fun e w' => e = .returned (.bool true) ∧ Ext w w' := by
  have hq' := u32_of hq
  obtain ⟨g, rfl⟩ : ∃ g : Nat, q = g := ⟨q.toNat, by omega⟩
  have hg : g < 4294967296 := by omega
  rcases rce_cases g x.l.length with h | h | ⟨h, hG, hl⟩
  · exact restPuts_bad g hg x 4 h (by decide) w
  · exact restPuts_bad g hg x 1 h (by decide) w
  · by_cases hf : x.l.length + g.log2 ≤ 64
    · exact restPuts_good g hG x h hf w hx
    · exact restPuts_large g hG x h (by omega) hl w

set_option maxRecDepth 100000 in
theorem restPuts_lifted (os : Os) (started : os.Started) (H : Type) (enc : TypeId × Value → H) :
    ReturnsInHanded {} Try.checked os 4 .any (Rows.restPutsSpec.pre6 enc Try.prog Try.f4 Rows.restPutsRow.domain false) (Rows.restPutsSpec.post enc Try.prog Try.f4 false true false false) := by
  refine returnsInHanded_of_change (C := Try.checked) own started (by kernel_rfl) Try.func4
    (ChangeSpec.witness6 (enc := enc) (C := Try.checked) false ⟨#[], #[.int .u32 0, .slice none 0 0], []⟩ 8 (by kernel_rfl) (by kernel_rfl) (by kernel_rfl) (by kernel_rfl)) ?_
  intro W base args ds gs before hval0 hW _ _
  have hval : ∀ (j : Nat) t v, Try.f4.params[j]? = some t → args[j]? = some v → Value.okWide Try.prog W .any base t v := hval0
  have hW' := hW
  obtain ⟨p, q, hA0, hV, rfl, hfz, hnd⟩ := hW
  have hA : DataW.TrodAll enc Try.prog W 0 (fun _ => true) true Try.f4.params.toList args.toList ds p := hA0
  rw [Try.params4] at hA hval
  obtain ⟨v0, vs0, d0, ds0, p0, q0, hargs, rfl, rfl, h0, r0⟩ := trodAll_cons hA
  obtain ⟨v1, vs1, d1, ds1, p1, q1, rfl, rfl, rfl, h1, r1⟩ := trodAll_cons r0
  obtain ⟨rfl, rfl, rfl⟩ := trodAll_nil r1
  obtain rfl : args = #[v0, v1] := by cases args; simp_all
  obtain ⟨rfl, rfl⟩ := trodVars_none hV
  have lt0 : ∀ x ∈ p0, x.block < W.heap.size := by obtain ⟨m, hm⟩ := h0; exact DataW.trod_lt m _ _ _ hm
  obtain ⟨x0, rfl, -, -, wf0⟩ := open_int Try.underlying22 (hval 0 22 v0 rfl rfl) h0
  have lt1 : ∀ x ∈ p1, x.block < W.heap.size := by obtain ⟨m, hm⟩ := h1; exact DataW.trod_lt m _ _ _ hm
  obtain ⟨x1, rfl, w1⟩ := open_word (hval 1 23 v1 rfl rfl) h1
  clear hA0 hval0
  refine (restPuts_walk x0 wf0 x1 W w1).mono fun e W' ⟨he, bel⟩ => ?_
  subst he
  exact ⟨_, rfl, _, _, _, [], _, [], hW', trodAll_mk1 (shut_bool Try.underlying4 _), (trodAll_cons_mk (Below.trod laidOut (by kernel_rfl) (of_decide_eq_true (by kernel_rfl)) h0 bel lt0) (trodAll_cons_mk (Below.trod laidOut (by kernel_rfl) (of_decide_eq_true (by kernel_rfl)) h1 bel lt1) trodAll_mk0)), rfl, bel.frame _, fun h => by cases h⟩

theorem restPuts_holds : Rows.RestPutsSaid :=
  OpenClaim.holds_of_wide 4 Try.f4 rfl rfl rfl rfl rfl rfl rfl ⟨rfl, rfl, rfl, rfl, rfl⟩ rfl rfl rfl rfl rfl (by kernel_rfl) Try.func4 (by kernel_rfl)
    (of_decide_eq_true (by kernel_rfl)) (by unfold Func.isWrapper; rw [if_neg (of_decide_eq_false (by kernel_rfl))]; exact ⟨rfl, rfl⟩)
    (fun os started H enc _ => restPuts_lifted os started H enc)

#print axioms restPuts_holds

end Go.Proofs.Ythdlljmcppndlaa
