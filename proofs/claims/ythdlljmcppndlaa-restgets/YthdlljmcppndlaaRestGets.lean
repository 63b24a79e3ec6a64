/-
  For any polynomial and any bits the program tells them without their check, or that it is not right: RestGets returns true for every number and every list of bits, and changes nothing.
-/
import Derived.Test.YthdlljmcppndlaaOpen
import Derived.Test.YthdlljmcppndlaaFac
import Derived.Test.YthdlljmcppndlaaRf
import Derived.Test.YthdlljmcppndlaaEq
import Derived.ProofKit
namespace Go.Proofs.Ythdlljmcppndlaa
open Go.ChangeShapes Go.WideShapes Go.ChangeAt Go.RowKit Go.Deep
set_option linter.unusedVariables false

theorem u32_of {x : Int} (h : (Lit.int .u32 x).wf = true) : 0 ≤ x ∧ x < 4294967296 := by
  have b : IntKind.u32.min = 0 ∧ IntKind.u32.max = 4294967295 := by decide
  simp only [Lit.wf, b, Bool.and_eq_true, decide_eq_true_eq] at h
  omega

theorem restGets_bad (g : Nat) (hg : g < 4294967296) (x : Wd) (c : Int) (hc : rce g x.l.length = c) (h : c ≠ 0) (w : World) : Calls Try.prog 5 #[.int .u32 g, x.v] w fun e w' => e = .returned (.bool true) ∧ Ext w w' := by
  have c1 := Get_bad g hg x c hc h w
  have c2 := refCheck_any g hg x.a x.l.length x.c w
  have c3 := refDegree_any g hg w
  have hd32 : g.log2 ≤ 32 := by rw [← hb_log (g := g) 32 (by omega)]; exact hb_le g 32
  generalize g.log2 = d at *
  have hn := x.l.length.zero_le
  have hx1 : 0 ≤ x.l.length := hn
  rw [hc] at c2
  have hb : (c != 0) = true := bne_iff_ne.2 h
  have hb2 : (c == 0) = false := beq_eq_false_iff_ne.2 h
  clear hc
  simp only [Wd.v] at *
  generalize x.l.length = n at *
  go_enter Try.func5, Try.ntmps5
  go_wp2_with fail
  refine c1.mono ?_
  rintro e w1 ⟨rfl, rfl⟩
  clear c1
  go_wp2_with fail
  refine c2.mono ?_
  rintro e w1 ⟨rfl, rfl⟩
  clear c2
  go_wp2_with fail
  refine c3.mono ?_
  rintro e w1 ⟨rfl, rfl⟩
  clear c3
  go_wp2
  go_ret
  exact ⟨rfl, Ext.refl _⟩

theorem restGets_form (g : Nat) (hG : G g) (x : Wd) (h : rce g x.l.length = 0) (hl : x.l.length < g.log2) (w : World) : Calls Try.prog 5 #[.int .u32 g, x.v] w fun e w' => e = .returned (.bool true) ∧ Ext w w' := by
  have hg1 : g ≤ 131071 := hG.2.2
  have hd := hG.deg
  have c1 := Get_form g x hG h hl w
  have c2 := refCheck_any g (by omega) x.a x.l.length x.c w
  rw [h] at c2
  have c3 := refDegree_any g (by omega) w
  clear h
  simp only [Wd.v] at *
  generalize x.l.length = n at *
  generalize g.log2 = d at *
  have hz : (n : Int) - (d : Int) < 0 := by omega
  go_enter Try.func5, Try.ntmps5
  go_wp2_with fail
  refine c1.mono ?_
  rintro e w1 ⟨rfl, rfl⟩
  clear c1
  go_wp2_with fail
  refine c2.mono ?_
  rintro e w1 ⟨rfl, rfl⟩
  clear c2
  go_wp2_with fail
  refine c3.mono ?_
  rintro e w1 ⟨rfl, rfl⟩
  clear c3
  go_wp2
  go_ret
  exact ⟨rfl, Ext.refl _⟩

theorem restGets_sum (g : Nat) (hG : G g) (x : Wd) (h : rce g x.l.length = 0) (hl : g.log2 ≤ x.l.length) (hl2 : x.l.length ≤ 64) (h0 : rs g x.l ≠ 0) (w : World) (hx : Bits w x) : Calls Try.prog 5 #[.int .u32 g, x.v] w fun e w' => e = .returned (.bool true) ∧ Ext w w' := by
  have hg1 : g ≤ 131071 := hG.2.2
  have hd := hG.deg
  have c1 := Get_sum g x hG h hl hl2 h0 w hx
  have c2 := refCheck_any g (by omega) x.a x.l.length x.c w
  rw [h] at c2
  have c3 := refDegree_any g (by omega) w
  have c4 := refRest_any g hG x (by omega) w hx
  clear h hx
  simp only [Wd.v] at *
  generalize rs g x.l = r at *
  generalize x.l.length = n at *
  generalize g.log2 = d at *
  have hz : ¬ (n : Int) - (d : Int) < 0 := by omega
  have hr : ((r : Int) != 0) = true := bne_iff_ne.2 (by omega)
  go_enter Try.func5, Try.ntmps5
  go_wp2_with fail
  refine c1.mono ?_
  rintro e w1 ⟨rfl, rfl⟩
  clear c1
  go_wp2_with fail
  refine c2.mono ?_
  rintro e w1 ⟨rfl, rfl⟩
  clear c2
  go_wp2_with fail
  refine c3.mono ?_
  rintro e w1 ⟨rfl, rfl⟩
  clear c3
  go_wp2_with fail
  refine c4.mono ?_
  rintro e w4 ⟨rfl, E⟩
  have E' : Hid (Ext w1 w4) := E
  clear c4 E
  go_wp2
  go_ret
  exact ⟨rfl, E'.out⟩

theorem restGets_good (g : Nat) (hG : G g) (x : Wd) (h : rce g x.l.length = 0) (m : Nat) (hm : x.l.length = m + g.log2) (hl2 : x.l.length ≤ 64) (h0 : rs g x.l = 0) (w : World) (hx : Bits w x) : Calls Try.prog 5 #[.int .u32 g, x.v] w fun e w' => e = .returned (.bool true) ∧ Ext w w' := by
  have hg1 : g ≤ 131071 := hG.2.2
  have hd := hG.deg
  have c1 := Get_good g x hG h m hm hl2 h0 w hx
  have c2 : Hid (∀ W : World, Calls Try.prog 10 #[.int .u32 g, .slice x.a x.l.length x.c] W fun e w' => e = .returned (.int .i64 0) ∧ w' = W) := fun W => by
    have := refCheck_any g (by omega) x.a x.l.length x.c W
    rw [h] at this
    exact this
  have c3 : Hid (∀ W : World, Calls Try.prog 13 #[.int .u32 g] W fun e w' => e = .returned (.int .i64 (g.log2 : Nat)) ∧ w' = W) := fun W => refDegree_any g (by omega) W
  have c4 : Hid (∀ W : World, Ext w W → Calls Try.prog 11 #[.int .u32 g, .slice x.a x.l.length x.c] W fun e w' => e = .returned (.int .u32 0) ∧ Ext W w') := fun W E => by
    have := refRest_any g hG x (by omega) W (hx.ext E)
    rw [h0] at this
    exact this
  have XT : Hid (∀ (d : Wd) (W : World), d.l = x.l.take m → Bits W d → Ext w W → Calls Try.prog 14 #[d.v, .slice x.a m x.c] W fun e w' => e = .returned (.bool true) ∧ Ext W w') := fun d W hd hb E => by
    have hk : (x.l.take m).length = m := by rw [List.length_take]; omega
    have hy : Bits W ⟨x.a, x.c, x.l.take m⟩ := by
      obtain ⟨h1, h2, h3, b, o, h4, h5⟩ := hx.ext E
      refine ⟨by show (x.l.take m).length ≤ x.c; omega, h2, h3, b, o, fun h => h4 (by have : 0 < (x.l.take m).length := h; omega), fun i hi => ?_⟩
      have hi' : i < (x.l.take m).length := hi
      rw [h5 i (by omega)]
      show _ = some (Value.bool ((x.l.take m).getD i false))
      rw [List.getD_eq_getElem?_getD, List.getD_eq_getElem?_getD, List.getElem?_take_of_lt (by omega)]
    have := bools_any d ⟨x.a, x.c, x.l.take m⟩ W hb hy
    simp only [Wd.v, hk] at this
    refine this.mono ?_
    rintro e w' ⟨rfl, q⟩
    exact ⟨ret_bool (by rw [hd]; simp), q.ext⟩
  clear h h0
  have hcap : x.l.length ≤ x.c := hx.1
  have hcap2 : x.c ≤ maxLen := hx.2.1
  unfold maxLen at hcap2
  have hnone : 0 < x.l.length → x.a ≠ none := fun h e => by have := hx.2.2.1 e; omega
  have hpos : x.a ≠ none := hnone (by omega)
  obtain ⟨pa, ha⟩ := Option.ne_none_iff_exists'.1 hpos
  rw [ha] at c2 c4 XT
  clear hx hnone hpos
  simp only [Wd.v, ha] at *
  generalize x.l.take m = K at *
  generalize x.l.length = n at *
  generalize x.c = c at *
  generalize g.log2 = d at *
  have hz : (n : Int) - (d : Int) = (m : Int) := by omega
  clear hm
  go_enter Try.func5, Try.ntmps5
  go_wp2_with fail
  refine c1.mono ?_
  rintro e w1 ⟨y, rfl, hy, hb, E1⟩
  have Y1 : Hid (y.l = K ∧ Bits w1 y) := ⟨hy, hb⟩
  have E1' : Hid (Ext w w1) := E1
  obtain ⟨v1, hv1⟩ : ∃ v, y.v = v := ⟨_, rfl⟩
  have HV1 : Hid (y.v = v1) := hv1
  try rw [show Value.slice y.a y.l.length y.c = v1 from hv1]
  try rw [hv1]
  clear c1 hy hb E1 hv1
  go_wp2_with fail
  refine (c2.out _).mono ?_
  rintro e w2 ⟨rfl, rfl⟩
  clear c2
  go_wp2_with fail
  refine (c3.out _).mono ?_
  rintro e w2 ⟨rfl, rfl⟩
  clear c3
  have k4 := c4.out _ E1'.out
  clear c4
  go_wp2_with fail
  refine k4.mono ?_
  rintro e w4 ⟨rfl, E4⟩
  have E4' : Hid (Ext w w4) := E1'.out.trans E4
  have k5 := XT.out y w4 Y1.out.1 (Y1.out.2.ext E4) E4'.out
  rw [show Value.slice y.a y.l.length y.c = v1 from HV1.out] at k5
  clear k4 E4 XT Y1 E1' HV1
  go_wp2_with fail
  refine k5.mono ?_
  rintro e w5 ⟨rfl, E5⟩
  have E5' : Hid (Ext w w5) := E4'.out.trans E5
  clear k5 E5 E4'
  go_wp2
  go_ret
  exact ⟨rfl, E5'.out⟩

theorem restGets_walk (q : Int) (hq : (Lit.int .u32 q).wf = true) (x : Wd) (w : World) (hx : Bits w x) : Calls Try.prog 5 #[.int .u32 q, x.v] w fun e w' => e = .returned (.bool true) ∧ Ext w w' := by
  have hq' := u32_of hq
  obtain ⟨g, rfl⟩ : ∃ g : Nat, q = g := ⟨q.toNat, by omega⟩
  have hg : g < 4294967296 := by omega
  rcases rce_cases g x.l.length with h | h | ⟨h, hG, hl⟩
  · exact restGets_bad g hg x 4 h (by decide) w
  · exact restGets_bad g hg x 1 h (by decide) w
  · by_cases hf : x.l.length < g.log2
    · exact restGets_form g hG x h hf w
    · by_cases h0 : rs g x.l = 0
      · exact restGets_good g hG x h (x.l.length - g.log2) (by omega) hl h0 w hx
      · exact restGets_sum g hG x h (by omega) hl h0 w hx

set_option maxRecDepth 100000 in
theorem restGets_lifted (os : Os) (started : os.Started) (H : Type) (enc : TypeId × Value → H) :
    ReturnsInHanded {} Try.checked os 5 .any (Rows.restGetsSpec.pre6 enc Try.prog Try.f5 Rows.restGetsRow.domain false) (Rows.restGetsSpec.post enc Try.prog Try.f5 false true false false) := by
  refine returnsInHanded_of_change (C := Try.checked) own started (by kernel_rfl) Try.func5
    (ChangeSpec.witness6 (enc := enc) (C := Try.checked) false ⟨#[], #[.int .u32 0, .slice none 0 0], []⟩ 8 (by kernel_rfl) (by kernel_rfl) (by kernel_rfl) (by kernel_rfl)) ?_
  intro W base args ds gs before hval0 hW _ _
  have hval : ∀ (j : Nat) t v, Try.f5.params[j]? = some t → args[j]? = some v → Value.okWide Try.prog W .any base t v := hval0
  have hW' := hW
  obtain ⟨p, q, hA0, hV, rfl, hfz, hnd⟩ := hW
  have hA : DataW.TrodAll enc Try.prog W 0 (fun _ => true) true Try.f5.params.toList args.toList ds p := hA0
  rw [Try.params5] at hA hval
  obtain ⟨v0, vs0, d0, ds0, p0, q0, hargs, rfl, rfl, h0, r0⟩ := trodAll_cons hA
  obtain ⟨v1, vs1, d1, ds1, p1, q1, rfl, rfl, rfl, h1, r1⟩ := trodAll_cons r0
  obtain ⟨rfl, rfl, rfl⟩ := trodAll_nil r1
  obtain rfl : args = #[v0, v1] := by cases args; simp_all
  obtain ⟨rfl, rfl⟩ := trodVars_none hV
  have lt0 : ∀ x ∈ p0, x.block < W.heap.size := by obtain ⟨m, hm⟩ := h0; exact DataW.trod_lt m _ _ _ hm
  obtain ⟨x0, rfl, -, -, wf0⟩ := open_int Try.underlying22 (hval 0 22 v0 rfl rfl) h0
  have lt1 : ∀ x ∈ p1, x.block < W.heap.size := by obtain ⟨m, hm⟩ := h1; exact DataW.trod_lt m _ _ _ hm
  obtain ⟨x1, rfl, w1⟩ := open_word (hval 1 23 v1 rfl rfl) h1
  clear hA0 hval0
  refine (restGets_walk x0 wf0 x1 W w1).mono fun e W' ⟨he, bel⟩ => ?_
  subst he
  exact ⟨_, rfl, _, _, _, [], _, [], hW', trodAll_mk1 (shut_bool Try.underlying4 _), (trodAll_cons_mk (Below.trod laidOut (by kernel_rfl) (of_decide_eq_true (by kernel_rfl)) h0 bel lt0) (trodAll_cons_mk (Below.trod laidOut (by kernel_rfl) (of_decide_eq_true (by kernel_rfl)) h1 bel lt1) trodAll_mk0)), rfl, bel.frame _, fun h => by cases h⟩

theorem restGets_holds : Rows.RestGetsSaid :=
  OpenClaim.holds_of_wide 5 Try.f5 rfl rfl rfl rfl rfl rfl rfl ⟨rfl, rfl, rfl, rfl, rfl⟩ rfl rfl rfl rfl rfl (by kernel_rfl) Try.func5 (by kernel_rfl)
    (of_decide_eq_true (by kernel_rfl)) (by unfold Func.isWrapper; rw [if_neg (of_decide_eq_false (by kernel_rfl))]; exact ⟨rfl, rfl⟩)
    (fun os started H enc _ => restGets_lifted os started H enc)

#print axioms restGets_holds

end Go.Proofs.Ythdlljmcppndlaa
