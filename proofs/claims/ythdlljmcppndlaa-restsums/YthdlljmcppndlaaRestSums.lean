/-
  For any polynomial and any two lists of as many bits what their sum leaves is the sum of what they leave, and a polynomial with an even number of terms tells any odd number that is turned: RestSums returns true for every such input, and changes nothing.
-/
import Derived.Test.YthdlljmcppndlaaOpen
import Derived.Test.YthdlljmcppndlaaFac
import Derived.Test.YthdlljmcppndlaaRf
import Derived.Test.YthdlljmcppndlaaEq
import Derived.Test.YthdlljmcppndlaaDgt
import Derived.Test.YthdlljmcppndlaaAb
import Derived.Laws.BitsAllLaws
import Derived.ProofKit
namespace Go.Proofs.Ythdlljmcppndlaa
open Go.ChangeShapes Go.WideShapes Go.ChangeAt Go.RowKit Go.Deep
set_option linter.unusedVariables false

theorem u32_of {x : Int} (h : (Lit.int .u32 x).wf = true) : 0 ≤ x ∧ x < 4294967296 := by
  have b : IntKind.u32.min = 0 ∧ IntKind.u32.max = 4294967295 := by decide
  simp only [Lit.wf, b, Bool.and_eq_true, decide_eq_true_eq] at h
  omega

theorem rce_G {g n : Nat} (h : G g) (hn : n ≤ 64) : rce g n = 0 := by
  obtain ⟨h0, h1, h2⟩ := h
  rw [Nat.testBit_zero, decide_eq_true_eq] at h0
  exact rce_ok (by omega) (by omega)

theorem Rest_any (g : Nat) (hg : g < 4294967296) (x : Wd) (w : World) (hx : Bits w x) : Calls Try.prog 9 #[.int .u32 g, x.v] w fun e w' => (∃ r : Int, e = .returned (.tuple #[.int .u32 r, .int .i64 (rce g x.l.length)])) ∧ w' = w := by
  rcases rce_cases g x.l.length with h | h | ⟨h, hG, hl⟩
  · refine (Rest_bad g hg x 4 h (by decide) w).mono ?_
    rintro e w' ⟨rfl, rfl⟩
    exact ⟨⟨0, by rw [h]⟩, rfl⟩
  · refine (Rest_bad g hg x 1 h (by decide) w).mono ?_
    rintro e w' ⟨rfl, rfl⟩
    exact ⟨⟨0, by rw [h]⟩, rfl⟩
  · refine (Rest_good g x hG hl h w hx).mono ?_
    rintro e w' ⟨rfl, rfl⟩
    exact ⟨⟨_, by rw [h]⟩, rfl⟩

theorem restSums_bad (g : Nat) (hg : g < 4294967296) (x y : Wd) (h : rce g x.l.length ≠ 0 ∨ rce g y.l.length ≠ 0) (w : World) (hx : Bits w x) (hy : Bits w y) : Calls Try.prog 8 #[.int .u32 g, x.v, y.v] w fun e w' => e = .returned (.bool true) ∧ Ext w w' := by
  have c0 := Rest_any g hg x w hx
  have c1 := Rest_any g hg y w hy
  have c2 := refCheck_any g hg x.a x.l.length x.c w
  have c3 := refCheck_any g hg y.a y.l.length y.c w
  simp only [Wd.v] at *
  generalize rce g x.l.length = A at *
  generalize rce g y.l.length = B at *
  clear hx hy
  generalize x.l.length = n at *
  generalize y.l.length = m at *
  have hAB : (A != 0) = true ∨ ((A != 0) = false ∧ (B != 0) = true) := by
    by_cases h0 : A = 0
    · exact .inr ⟨by rw [h0]; rfl, bne_iff_ne.2 (by omega)⟩
    · exact .inl (bne_iff_ne.2 h0)
  clear h
  rcases hAB with hA | ⟨hA, hB⟩
  all_goals
    go_enter Try.func8, Try.ntmps8
    go_wp2_with (first | (go_at_call 9; refine c0.mono ?_; rintro e w1 ⟨⟨r, rfl⟩, rfl⟩; clear c0) | (go_at_call 9; refine c1.mono ?_; rintro e w2 ⟨⟨r2, rfl⟩, rfl⟩; clear c1) | (go_at_call 10; refine c2.mono ?_; rintro e w3 ⟨rfl, rfl⟩; clear c2) | (go_at_call 10; refine c3.mono ?_; rintro e w4 ⟨rfl, rfl⟩; clear c3))
    go_ret
    exact ⟨rfl, Ext.refl _⟩

/-- The sum of two lists of as many bits. -/
theorem rs_sum (g : Nat) (a b : List Bool) (h : a.length = b.length) : rs g (bl (fun i => a.getD i false != b.getD i false) a.length) = rs g a ^^^ rs g b := by
  unfold rs
  rw [bl_len, rn_congr (h := fun i => a.getD i false != b.getD i false) _ (fun i hi => bl_at _ hi), rn_xor, h]
theorem rs_one {g : Nat} (hg : G g) : rs g [true] = 1 := by
  show st g 0 true = 1
  unfold st sh
  rw [Nat.zero_testBit, if_neg (by decide)]
  rfl
theorem rs_odd {g : Nat} (hg : G g) (he : pop g % 2 = 0) (a : List Bool) (ho : xs (fun i => a.getD i false) a.length = true) : rs g a ≠ 0 := fun h => by
  have e : xs g.testBit 32 = false := by rw [← popN_xs]; show (pop g % 2 == 1) = false; rw [he]; rfl
  have := rn_odd hg e (fun i => a.getD i false) a.length
  rw [ho, show rn g (fun i => a.getD i false) a.length = 0 from h, xs_false 32 (fun i _ => Nat.zero_testBit i)] at this
  cases this

set_option maxHeartbeats 4000000 in
theorem restSums_good (g : Nat) (hG : G g) (x y : Wd) (hl : x.l.length ≤ 64) (hm : y.l.length ≤ 64) (w : World) (hx : Bits w x) (hy : Bits w y) : Calls Try.prog 8 #[.int .u32 g, x.v, y.v] w fun e w' => e = .returned (.bool true) ∧ Ext w w' := by
  have hg1 : g ≤ 131071 := hG.2.2
  have hd := hG.deg
  have RG : Hid (∀ (z : Wd) (W : World), z.l.length ≤ 64 → Bits W z → Calls Try.prog 9 #[.int .u32 g, z.v] W fun e w' => e = .returned (.tuple #[.int .u32 (rs g z.l : Nat), .int .i64 0]) ∧ w' = W) := fun z W hz hb => Rest_good g z hG hz (rce_G hG hz) W hb
  have c0 := RG.out x w hl hx
  have c1 := RG.out y w hm hy
  have c2 := refCheck_any g (by omega) x.a x.l.length x.c w
  have c3 := refCheck_any g (by omega) y.a y.l.length y.c w
  rw [rce_G hG hl] at c2
  rw [rce_G hG hm] at c3
  have c4 : Hid (∀ W : World, Calls Try.prog 9 #[.int .u32 g, .slice (some ⟨W.heap.size, 0, none⟩) 1 1] (W.alloc (.cells #[.bool true] 4)) fun e w' => e = .returned (.tuple #[.int .u32 1, .int .i64 0]) ∧ Ext W w') := fun W => by
    have hb : Bits (W.alloc (.cells #[.bool true] 4)) ⟨some ⟨W.heap.size, 0, none⟩, 1, [true]⟩ := Row.bits (l := [true]) (heap_alloc_new W _) (by show 1 ≤ maxLen; unfold maxLen; omega)
    have := RG.out _ _ (by show [true].length ≤ 64; decide) hb
    rw [rs_one hG] at this
    refine this.mono ?_
    rintro e w' ⟨rfl, rfl⟩
    exact ⟨rfl, (Ext.refl W).alloc _⟩
  have c5 : Hid (∀ W : World, Calls Try.prog 18 #[.int .u32 g] W fun e w' => e = .returned (.int .i64 (pop g : Nat)) ∧ w' = W) := fun W => size_any g (by omega) W
  have c6 : Hid (∀ W : World, Ext w W → Calls Try.prog 19 #[x.v] W fun e w' => e = .returned (.bool (xs (fun i => x.l.getD i false) x.l.length)) ∧ w' = W) := fun W E => oddBits_any x W (hx.ext E)
  have RO := rs_odd hG (a := x.l)
  obtain ⟨a, ha⟩ : ∃ a, rs g x.l = a := ⟨_, rfl⟩
  obtain ⟨b, hb⟩ : ∃ b, rs g y.l = b := ⟨_, rfl⟩
  have ha16 : a < 65536 := by rw [← ha]; exact rs_small hG _
  have hb16 : b < 65536 := by rw [← hb]; exact rs_small hG _
  have SU : Hid (x.l.length = y.l.length → rs g (bl (fun i => x.l.getD i false != y.l.getD i false) x.l.length) = a ^^^ b) := fun h => by rw [← ha, ← hb]; exact rs_sum g x.l y.l h
  have ex := u32_xor_nat a b (by omega) (by omega)
  obtain ⟨P, hP⟩ : ∃ P, pop g = P := ⟨_, rfl⟩
  obtain ⟨O, hO⟩ : ∃ O, xs (fun i => x.l.getD i false) x.l.length = O := ⟨_, rfl⟩
  rw [hP] at c5
  rw [hO] at c6
  rw [ha] at c0
  rw [hb] at c1
  have tm : (P : Int).tmod 2 = ((P % 2 : Nat) : Int) := by rw [show (2 : Int) = ((2 : Nat) : Int) from rfl, ← Int.ofNat_tmod]
  have way : (P : Int).tmod 2 = 1 ∨ ((P : Int).tmod 2 = 0 ∧ O = false) ∨ ((P : Int).tmod 2 = 0 ∧ O = true ∧ ((a : Int) == 0) = false ∧ ¬ (a : Int) = 0) := by
    rcases Nat.mod_two_eq_zero_or_one P with h | h
    · have t0 : (P : Int).tmod 2 = 0 := by rw [tm, h]; rfl
      cases O with
      | false => exact .inr (.inl ⟨t0, rfl⟩)
      | true =>
        have ha0 : a ≠ 0 := by rw [← ha]; exact RO (by rw [hP]; exact h) hO
        exact .inr (.inr ⟨t0, rfl, beq_eq_false_iff_ne.2 (by omega), by omega⟩)
    · exact .inl (by rw [tm, h]; rfl)
  have hPl : P ≤ 32 := by rw [← hP]; exact popN_le 32 g
  clear tm
  clear RO hP hO ha hb
  obtain ⟨xa, xc, xl⟩ := x
  obtain ⟨ya, yc, yl⟩ := y
  obtain ⟨x1, x2, _, xb, xo, x4, x5⟩ := hx
  obtain ⟨y1, y2, _, yb, yo, y4, y5⟩ := hy
  simp only at hl hm c2 c3 x1 x2 x4 x5 y1 y2 y4 y5
  simp only [Wd.v] at *
  obtain ⟨A, hA⟩ : ∃ A : Nat → Bool, ∀ i, A i = xl.getD i false := ⟨_, fun _ => rfl⟩
  obtain ⟨C, hC⟩ : ∃ C : Nat → Bool, ∀ i, C i = yl.getD i false := ⟨_, fun _ => rfl⟩
  have XA : Hid (∀ i, i < xl.length → w.cell? ⟨xb, xo + i, none⟩ = some (.bool (A i))) := fun i hi => by rw [hA]; exact x5 i hi
  have YC : Hid (∀ i, i < yl.length → w.cell? ⟨yb, yo + i, none⟩ = some (.bool (C i))) := fun i hi => by rw [hC]; exact y5 i hi
  obtain ⟨T, hT⟩ : ∃ T : Nat → List Bool, ∀ k, T k = bl (fun i => A i != C i) k := ⟨_, fun _ => rfl⟩
  have T0 : Hid (T 0 = []) := hT 0
  have TN : Hid (∀ k, T (k + 1) = T k ++ [A k != C k]) := fun k => by show _ = _; rw [hT, hT]; exact bl_snoc _ _
  have TL : Hid (∀ k, (T k).length = k) := fun k => by show _ = _; rw [hT, bl_len]
  have SU' : Hid (xl.length = yl.length → rs g (T xl.length) = a ^^^ b) := fun h => by
    rw [hT, bl_congr (g := fun i => xl.getD i false != yl.getD i false) (fun i _ => by rw [hA, hC])]
    exact SU.out h
  clear hT hA hC x5 y5 SU
  generalize xl.length = n at *
  generalize yl.length = m at *
  unfold maxLen at x2 y2
  go_enter Try.func8, Try.ntmps8
  go_wp2_with fail
  refine c0.mono ?_
  rintro e w1 ⟨rfl, rfl⟩
  clear c0
  go_wp2_with fail
  refine c1.mono ?_
  rintro e w2 ⟨rfl, rfl⟩
  clear c1
  go_wp2_with fail
  refine c2.mono ?_
  rintro e w3 ⟨rfl, rfl⟩
  clear c2
  go_wp2_with fail
  refine c3.mono ?_
  rintro e w4 ⟨rfl, rfl⟩
  clear c3
  go_wp2_with fail
  refine (c4.out w4).mono ?_
  rintro e w5 ⟨rfl, E5⟩
  have E5' : Hid (Ext w4 w5) := E5
  have k6 := c6.out w5 E5
  clear c4 c6 E5
  rcases way with h | ⟨h, ho⟩ | ⟨h, ho, hz, hz2⟩
  all_goals
    (try subst ho)
    go_wp2_with fail
    refine (c5.out w5).mono ?_
    rintro e w6 ⟨rfl, rfl⟩
    clear c5
    by_cases hnm : n = m
    · subst hnm
      have SU2 : Hid (rs g (T n) = a ^^^ b) := SU'.out rfl
      clear SU'
      go_wp2_with (go_at_call 19; refine k6.mono ?_; rintro e w7 ⟨rfl, rfl⟩; clear k6)
      (try clear k6)
      go_loopg [13, 14] n (fun gg s13 s14 wr => ∃ (k : Nat) (sv : Value), k ≤ n ∧ n - k ≤ gg ∧ s14 = .int .i64 k ∧ sv = s13 ∧ Aside (OwnB w4 wr sv (T k)))
      case atStart => exact ⟨0, _, Nat.zero_le _, by omega, rfl, rfl, by show OwnB _ _ _ _; rw [T0.out]; exact OwnB.nil E5'.out⟩
      case round =>
        obtain ⟨k, u13, hk, hgg, rfl, rfl, Ow⟩ := hrel
        by_cases hlt : k < n
        · have hltz : (k : Int) < (n : Int) := by omega
          obtain rfl := x4 (by omega)
          obtain rfl := y4 (by omega)
          have O1 : OwnB w4 wr.drew u13 (T k) := Ow.out.ext ((Ext.refl wr).drewN 1)
          have e1 := O1.1.cell (XA.out k hlt)
          have e2 := O1.1.cell (YC.out k hlt)
          have O1' : Hid (OwnB w4 wr.drew u13 (T k)) := O1
          have tn : Hid (T (k + 1) = T k ++ [A k != C k]) := TN.out k
          have tl : Hid ((T k).length + 1 ≤ 140737488355328) := by show _ ≤ _; rw [TL.out]; omega
          clear SU2 T0 TN TL XA YC RG Ow O1 x4 y4 E5'
          generalize A k = a1 at *
          generalize C k = a2 at *
          go_wp2
          go_region_law (refine step_appendBit rfl (.tmp 87) (.tmp 97) rfl w4 u13 (by rfl) _ O1'.out (a1 != a2) (by rfl) tl.out ?_; intro v' w8 O4)
          all_goals
            have O5 : Hid (OwnB w4 w8 v' (T (k + 1))) := by show OwnB _ _ _ _; rw [tn.out]; exact O4.out
            clear O4
            simp only [Act.put, List.getElem_toArray, List.getElem_cons_succ, List.getElem_cons_zero, List.setIfInBounds_toArray, List.set_cons_succ, List.set_cons_zero]
            go_wp2
            go_roundg (n - (k + 1))
            case measure => omega
            case rel => exact ⟨k + 1, _, by omega, by omega, by go_num, rfl, O5.out⟩
        · obtain rfl : k = n := by omega
          have hltz : ¬ (k : Int) < (k : Int) := by omega
          obtain ⟨z, rfl, hzl, hzb⟩ := Ow.out.bits
          have k7 := RG.out z wr (by rw [hzl, TL.out]; omega) hzb
          rw [hzl, SU2.out, TL.out] at k7
          have hzn : z.l.length = k := by rw [hzl, TL.out]
          have hv : z.v = .slice z.a k z.c := by rw [Wd.v, hzn]
          rw [hv]
          have E8 : Hid (Ext w4 wr) := Ow.out.1
          clear SU2 T0 TN TL XA YC RG Ow x4 y4 hzl hzb hzn hv
          generalize a ^^^ b = ab at *
          go_wp2_with fail
          refine k7.mono ?_
          rintro e w9 ⟨rfl, rfl⟩
          clear k7
          go_wp2
          go_ret
          exact ⟨rfl, E8.out⟩
    · have hnz : ((n : Int) != (m : Int)) = true := bne_iff_ne.2 (by omega)
      have hnz2 : ¬ (n : Int) = (m : Int) := by omega
      clear SU' T0 TN TL XA YC hnm RG
      go_wp2_with (go_at_call 19; refine k6.mono ?_; rintro e w7 ⟨rfl, rfl⟩; clear k6)
      go_ret
      exact ⟨rfl, E5'.out⟩


theorem restSums_walk (q : Int) (hq : (Lit.int .u32 q).wf = true) (x y : Wd) (w : World) (hx : Bits w x) (hy : Bits w y) : Calls Try.prog 8 #[.int .u32 q, x.v, y.v] w fun e w' => e = .returned (.bool true) ∧ Ext w w' := by
  have hq' := u32_of hq
  obtain ⟨g, rfl⟩ : ∃ g : Nat, q = g := ⟨q.toNat, by omega⟩
  have hg : g < 4294967296 := by omega
  rcases rce_cases g x.l.length with h | h | ⟨h, hG, hl⟩
  · exact restSums_bad g hg x y (.inl (by rw [h]; decide)) w hx hy
  · exact restSums_bad g hg x y (.inl (by rw [h]; decide)) w hx hy
  · by_cases hm : y.l.length ≤ 64
    · exact restSums_good g hG x y hl hm w hx hy
    · refine restSums_bad g hg x y (.inr ?_) w hx hy
      rcases rce_cases g y.l.length with k | k | ⟨k, _, hl⟩
      · rw [k]; decide
      · rw [k]; decide
      · omega

set_option maxRecDepth 100000 in
theorem restSums_lifted (os : Os) (started : os.Started) (H : Type) (enc : TypeId × Value → H) :
    ReturnsInHanded {} Try.checked os 8 .any (Rows.restSumsSpec.pre6 enc Try.prog Try.f8 Rows.restSumsRow.domain false) (Rows.restSumsSpec.post enc Try.prog Try.f8 false true false false) := by
  refine returnsInHanded_of_change (C := Try.checked) own started (by kernel_rfl) Try.func8
    (ChangeSpec.witness6 (enc := enc) (C := Try.checked) false ⟨#[], #[.int .u32 0, .slice none 0 0, .slice none 0 0], []⟩ 8 (by kernel_rfl) (by kernel_rfl) (by kernel_rfl) (by kernel_rfl)) ?_
  intro W base args ds gs before hval0 hW _ _
  have hval : ∀ (j : Nat) t v, Try.f8.params[j]? = some t → args[j]? = some v → Value.okWide Try.prog W .any base t v := hval0
  have hW' := hW
  obtain ⟨p, q, hA0, hV, rfl, hfz, hnd⟩ := hW
  have hA : DataW.TrodAll enc Try.prog W 0 (fun _ => true) true Try.f8.params.toList args.toList ds p := hA0
  rw [Try.params8] at hA hval
  obtain ⟨v0, vs0, d0, ds0, p0, q0, hargs, rfl, rfl, h0, r0⟩ := trodAll_cons hA
  obtain ⟨v1, vs1, d1, ds1, p1, q1, rfl, rfl, rfl, h1, r1⟩ := trodAll_cons r0
  obtain ⟨v2, vs2, d2, ds2, p2, q2, rfl, rfl, rfl, h2, r2⟩ := trodAll_cons r1
  obtain ⟨rfl, rfl, rfl⟩ := trodAll_nil r2
  obtain rfl : args = #[v0, v1, v2] := by cases args; simp_all
  obtain ⟨rfl, rfl⟩ := trodVars_none hV
  have lt0 : ∀ x ∈ p0, x.block < W.heap.size := by obtain ⟨m, hm⟩ := h0; exact DataW.trod_lt m _ _ _ hm
  obtain ⟨x0, rfl, -, -, wf0⟩ := open_int Try.underlying22 (hval 0 22 v0 rfl rfl) h0
  have lt1 : ∀ x ∈ p1, x.block < W.heap.size := by obtain ⟨m, hm⟩ := h1; exact DataW.trod_lt m _ _ _ hm
  obtain ⟨x1, rfl, w1⟩ := open_word (hval 1 23 v1 rfl rfl) h1
  have lt2 : ∀ x ∈ p2, x.block < W.heap.size := by obtain ⟨m, hm⟩ := h2; exact DataW.trod_lt m _ _ _ hm
  obtain ⟨x2, rfl, w2⟩ := open_word (hval 2 23 v2 rfl rfl) h2
  clear hA0 hval0
  refine (restSums_walk x0 wf0 x1 x2 W w1 w2).mono fun e W' ⟨he, bel⟩ => ?_
  subst he
  exact ⟨_, rfl, _, _, _, [], _, [], hW', trodAll_mk1 (shut_bool Try.underlying4 _), (trodAll_cons_mk (Below.trod laidOut (by kernel_rfl) (of_decide_eq_true (by kernel_rfl)) h0 bel lt0) (trodAll_cons_mk (Below.trod laidOut (by kernel_rfl) (of_decide_eq_true (by kernel_rfl)) h1 bel lt1) (trodAll_cons_mk (Below.trod laidOut (by kernel_rfl) (of_decide_eq_true (by kernel_rfl)) h2 bel lt2) trodAll_mk0))), rfl, bel.frame _, fun h => by cases h⟩

theorem restSums_holds : Rows.RestSumsSaid :=
  OpenClaim.holds_of_wide 8 Try.f8 rfl rfl rfl rfl rfl rfl rfl ⟨rfl, rfl, rfl, rfl, rfl⟩ rfl rfl rfl rfl rfl (by kernel_rfl) Try.func8 (by kernel_rfl)
    (of_decide_eq_true (by kernel_rfl)) (by unfold Func.isWrapper; rw [if_neg (of_decide_eq_false (by kernel_rfl))]; exact ⟨rfl, rfl⟩)
    (fun os started H enc _ => restSums_lifted os started H enc)

#print axioms restSums_holds

end Go.Proofs.Ythdlljmcppndlaa
