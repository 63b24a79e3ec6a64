/-
  Two lists of as many bits with one sum, from which one bit is gone, so that the same is left, are the same: DropApart returns true for every two lists of bits and every two numbers, and changes nothing.
-/
import Derived.Test.YtofdinddloejbaaOpen
import Derived.Test.YtofdinddloejbaaEq
import Derived.Test.YtofdinddloejbaaPl
import Derived.Test.YtofdinddloejbaaSl
import Derived.ProofKit
namespace Go.Proofs.Ytofdinddloejbaa
open Go.ChangeShapes Go.WideShapes Go.ChangeAt Go.RowKit Go.Deep
set_option linter.unusedVariables false

theorem u8_in {x : Int} (h : (Lit.int .u8 x).wf = true) : 0 ≤ x ∧ x < 256 := by
  have b : IntKind.u8.min = 0 ∧ IntKind.u8.max = 255 := by decide
  simp only [Lit.wf, b, Bool.and_eq_true, decide_eq_true_eq] at h
  omega

section
variable {P : Program} {ops : Array Oper} {md : Region.Mode} {C : World → Prop}

/-- An operation whose guard is not met. -/
theorem mOp_not {i : Nat} {o : Oper} {K : Act → World → Prop} {a : Act} {w : World} (hi' : ops.toList[i]? = some o) (hw : Region.wanted o (yielded ops a.tmps) = false)
    (h : K (a.put o.dst undef) w) : mOp P ops i K a w := by
  have hi : ops[i]? = some o := by rw [← Array.getElem?_toList]; exact hi'
  unfold mOp; simp only [hi, hw]; exact h
theorem wpMix_call {Q : Act → World → Prop} (i : Nat) {o : Oper} {fuel : Nat} {listed : Array Bool} {a : Act} {w w' : World} (f : FuncId) (args : Array Value) (hr : Region.ready md ops listed = [i]) (hC : C w) (hi' : ops.toList[i]? = some o)
    (hw : Region.wanted o (yielded ops a.tmps) = true) (hrun : (execOp a.eval o).run P w = .ok (.enter f args) w')
    (h : Calls P f args w' fun e w'' => ∃ v, e = .returned v ∧ wpMix P md ops C Q fuel (listed.setIfInBounds i true) (a.put o.dst v) w'') : wpMix P md ops C Q (fuel + 1) listed a w :=
  wpMix_only i hr hC (mOp_call hi' hw hrun h)
theorem wpMix_not {Q : Act → World → Prop} (i : Nat) {o : Oper} {fuel : Nat} {listed : Array Bool} {a : Act} {w : World} (hr : Region.ready md ops listed = [i]) (hC : C w) (hi' : ops.toList[i]? = some o)
    (hw : Region.wanted o (yielded ops a.tmps) = false) (h : wpMix P md ops C Q fuel (listed.setIfInBounds i true) (a.put o.dst undef) w) : wpMix P md ops C Q (fuel + 1) listed a w :=
  wpMix_only i hr hC (mOp_not hi' hw h)
theorem wpMix_not2 {Q : Act → World → Prop} (i j : Nat) {o p : Oper} {fuel : Nat} {listed : Array Bool} {a : Act} {w : World} (hr : Region.ready md ops listed = [i, j]) (hC : C w) (hi' : ops.toList[i]? = some o) (hj' : ops.toList[j]? = some p)
    (hw : Region.wanted o (yielded ops a.tmps) = false) (hw' : Region.wanted p (yielded ops a.tmps) = false) (h : wpMix P md ops C Q fuel (listed.setIfInBounds i true) (a.put o.dst undef) w)
    (h' : wpMix P md ops C Q fuel (listed.setIfInBounds j true) (a.put p.dst undef) w) : wpMix P md ops C Q (fuel + 1) listed a w :=
  wpMix_two i j hr hC (mOp_not hi' hw h) (mOp_not hj' hw' h')
end

theorem Sum_any (x : Wd) (w : World) (hx : Bits w x) : Calls Try.prog 9 #[x.v] w fun e w' => ∃ s c : Int, e = .returned (.tuple #[.int .i64 s, .int .i64 c]) ∧ w' = w := by
  by_cases h : x.l.length ≤ 12
  · refine (Sum_good x h w hx).mono ?_
    rintro e w' ⟨rfl, rfl⟩
    exact ⟨_, _, rfl, rfl⟩
  · refine (Sum_large x (by omega) w).mono ?_
    rintro e w' ⟨rfl, rfl⟩
    exact ⟨_, _, rfl, rfl⟩

set_option maxRecDepth 100000 in
theorem dropApart_largeA (x y : Wd) (hl : 12 < x.l.length) (i j : Int) (w : World) (hx : Bits w x) (hy : Bits w y) : Calls Try.prog 8 #[x.v, y.v, .int .u8 i, .int .u8 j] w fun e w' => e = .returned (.bool true) ∧ Ext w w' := by
  have c1 := Sum_large x hl w
  have c2 := Sum_any y w hy
  have hz : (12 : Int) < (x.l.length : Int) := by omega
  clear hx hy
  simp only [Wd.v] at *
  generalize x.l.length = n at *
  generalize y.l.length = m at *
  go_enter Try.func8, Try.ntmps8
  go_wp2_with fail
  refine c1.mono ?_
  rintro e w1 ⟨rfl, rfl⟩
  clear c1
  go_wp2_with fail
  refine c2.mono ?_
  rintro e w2 ⟨s, c, rfl, rfl⟩
  clear c2
  go_wp2
  go_ret
  exact ⟨rfl, Ext.refl _⟩

set_option maxRecDepth 100000 in
theorem dropApart_largeB (x y : Wd) (hx : x.l.length ≤ 12) (hl : 12 < y.l.length) (i j : Int) (w : World) (hbx : Bits w x) : Calls Try.prog 8 #[x.v, y.v, .int .u8 i, .int .u8 j] w fun e w' => e = .returned (.bool true) ∧ Ext w w' := by
  have c1 := Sum_good x hx w hbx
  have c2 := Sum_large y hl w
  have hz : (12 : Int) < (y.l.length : Int) := by omega
  have hz2 : ¬ (12 : Int) < (x.l.length : Int) := by omega
  clear hbx
  generalize sm x.l = s at *
  simp only [Wd.v] at *
  generalize x.l.length = n at *
  generalize y.l.length = m at *
  go_enter Try.func8, Try.ntmps8
  go_wp2_with fail
  refine c1.mono ?_
  rintro e w1 ⟨rfl, rfl⟩
  clear c1
  go_wp2_with fail
  refine c2.mono ?_
  rintro e w2 ⟨rfl, rfl⟩
  clear c2
  go_wp2
  go_ret
  exact ⟨rfl, Ext.refl _⟩

theorem Sum_one (W : World) : Calls Try.prog 9 #[.slice (some ⟨W.heap.size, 0, none⟩) 1 1] (W.alloc (.cells #[.bool true] 4)) fun e w' => e = .returned (.tuple #[.int .i64 1, .int .i64 0]) ∧ w' = W.alloc (.cells #[.bool true] 4) :=
  Sum_good ⟨some ⟨W.heap.size, 0, none⟩, 1, [true]⟩ (show 1 ≤ 12 by omega) _ (Row.bits (l := [true]) (heap_alloc_new W _) (by unfold maxLen; simp))

set_option maxRecDepth 100000 in
theorem dropApart_early (x y : Wd) (hlx : x.l.length ≤ 12) (hly : y.l.length ≤ 12) (h : x.l.length ≠ y.l.length ∨ (x.l.length = y.l.length ∧ x.l.length = 0) ∨ (x.l.length = y.l.length ∧ x.l.length ≠ 0 ∧ sm x.l ≠ sm y.l)) (i j : Int) (w : World) (hx : Bits w x) (hy : Bits w y) : Calls Try.prog 8 #[x.v, y.v, .int .u8 i, .int .u8 j] w fun e w' => e = .returned (.bool true) ∧ Ext w w' := by
  have c1 := Sum_good x hlx w hx
  have c2 := Sum_good y hly w hy
  have c3 : Hid (∀ W : World, Calls Try.prog 9 #[.slice (some ⟨W.heap.size, 0, none⟩) 1 1] (W.alloc (.cells #[.bool true] 4)) fun e w' => e = .returned (.tuple #[.int .i64 1, .int .i64 0]) ∧ w' = W.alloc (.cells #[.bool true] 4)) := Sum_one
  have hz : ¬ (12 : Int) < (y.l.length : Int) := by omega
  have hz2 : ¬ (12 : Int) < (x.l.length : Int) := by omega
  clear hx hy
  generalize sm x.l = s at *
  generalize sm y.l = t at *
  simp only [Wd.v] at *
  generalize x.l.length = n at *
  generalize y.l.length = m at *
  have E : Hid (Ext w (w.alloc (.cells #[.bool true] 4))) := (Ext.refl w).alloc _
  go_enter Try.func8, Try.ntmps8
  go_wp2_with fail
  refine c1.mono ?_
  rintro e w1 ⟨rfl, rfl⟩
  clear c1
  go_wp2_with fail
  refine c2.mono ?_
  rintro e w2 ⟨rfl, rfl⟩
  clear c2
  go_wp2_with fail
  refine (c3.out _).mono ?_
  rintro e w3 ⟨rfl, rfl⟩
  clear c3
  rcases h with h | ⟨h, h'⟩ | ⟨h, h', h''⟩
  · have hq : ((n : Int) == (m : Int)) = false := by rw [beq_eq_false_iff_ne]; omega
    go_wp2
    go_ret
    exact ⟨rfl, E.out⟩
  · subst h
    have hq : (n : Int) = 0 := by omega
    go_wp2
    go_ret
    exact ⟨rfl, E.out⟩
  · subst h
    have hq : ¬ (n : Int) = 0 := by omega
    have hq2 : ((s : Int) != (t : Int)) = true := by rw [bne_iff_ne]; omega
    go_wp2
    go_ret
    exact ⟨rfl, E.out⟩

set_option maxHeartbeats 4000000 in
set_option maxRecDepth 100000 in
theorem dropApart_good (x y : Wd) (hlx : x.l.length ≤ 12) (hxy : x.l.length = y.l.length) (h0 : x.l.length ≠ 0) (hs : sm x.l = sm y.l) (i j : Nat) (hi : i < 256) (hj : j < 256) (w : World) (hx : Bits w x) (hy : Bits w y) : Calls Try.prog 8 #[x.v, y.v, .int .u8 i, .int .u8 j] w fun e w' => e = .returned (.bool true) ∧ Ext w w' := by
  have c1 := Sum_good x hlx w hx
  have c2 := Sum_good y (by omega) w hy
  rw [← hs] at c2
  have c3 : Hid (∀ W : World, Calls Try.prog 9 #[.slice (some ⟨W.heap.size, 0, none⟩) 1 1] (W.alloc (.cells #[.bool true] 4)) fun e w' => e = .returned (.tuple #[.int .i64 1, .int .i64 0]) ∧ w' = W.alloc (.cells #[.bool true] 4)) := Sum_one
  have hmi : i % x.l.length < x.l.length := Nat.mod_lt _ (by omega)
  have hmj : j % y.l.length < y.l.length := Nat.mod_lt _ (by omega)
  have hw1 := wo_len hmi
  have hw2 := wo_len hmj
  have ri : (i : Int).tmod (x.l.length : Int) = ((i % x.l.length : Nat) : Int) := (Int.ofNat_tmod i _).symm
  have rj : (j : Int).tmod (y.l.length : Int) = ((j % y.l.length : Nat) : Int) := (Int.ofNat_tmod j _).symm
  have K1 : Hid (∀ W, Ext w W → Calls Try.prog 18 #[x.v, .int .i64 (i % x.l.length : Nat)] W fun e w' => ∃ u : Wd, e = .returned u.v ∧ u.l = wo (i % x.l.length) x.l ∧ Bits w' u ∧ Ext W w') := fun W E => by
    refine (without_any x (i % x.l.length) hmi (by omega) W (hx.ext E)).mono ?_
    rintro e w' ⟨v, rfl, O⟩
    obtain ⟨u, rfl, hu, hb⟩ := O.bits
    exact ⟨u, rfl, hu, hb, O.1⟩
  have K2 : Hid (∀ W, Ext w W → Calls Try.prog 18 #[y.v, .int .i64 (j % y.l.length : Nat)] W fun e w' => ∃ u : Wd, e = .returned u.v ∧ u.l = wo (j % y.l.length) y.l ∧ Bits w' u ∧ Ext W w') := fun W E => by
    refine (without_any y (j % y.l.length) hmj (by omega) W (hy.ext E)).mono ?_
    rintro e w' ⟨v, rfl, O⟩
    obtain ⟨u, rfl, hu, hb⟩ := O.bits
    exact ⟨u, rfl, hu, hb, O.1⟩
  have AP : Hid (wo (i % x.l.length) x.l = wo (j % y.l.length) y.l → x.l = y.l) := fun h => apart hmi hmj hs h
  have KB : Hid (∀ (u v : Wd) W, Bits W u → Bits W v → Calls Try.prog 17 #[u.v, v.v] W fun e w' => e = .returned (.bool (u.l == v.l)) ∧ Ext W w') := fun u v W h h' => by
    refine (bools_any u v W h h').mono ?_
    rintro e w' ⟨rfl, q⟩
    exact ⟨rfl, q.ext⟩
  have KX : Hid (x.l = y.l → ∀ W, Ext w W → Calls Try.prog 17 #[x.v, y.v] W fun e w' => e = .returned (.bool true) ∧ Ext W w') := fun h W E => by
    refine (bools_any x y W (hx.ext E) (hy.ext E)).mono ?_
    rintro e w' ⟨rfl, q⟩
    refine ⟨ret_bool ?_, q.ext⟩
    rw [h]; simp
  have hz : ¬ (12 : Int) < (y.l.length : Int) := by omega
  have hz2 : ¬ (12 : Int) < (x.l.length : Int) := by omega
  have hq : ¬ (y.l.length : Int) = 0 := by omega
  clear hx hy hs
  generalize sm x.l = s at *
  generalize wo (i % x.l.length) x.l = R1 at *
  generalize wo (j % y.l.length) y.l = R2 at *
  rw [hxy] at ri hlx hw1 hmi h0
  simp only [Wd.v] at c1 c2 K1 K2 KX ⊢
  rw [hxy] at c1 K1 KX ⊢
  generalize y.l.length = n at *
  clear hxy
  have hmi2 : i % n < 12 := by omega
  have hmj2 : j % n < 12 := by omega
  generalize i % n = p at *
  generalize j % n = q at *
  have E : Hid (Ext w (w.alloc (.cells #[.bool true] 4))) := (Ext.refl w).alloc _
  go_enter Try.func8, Try.ntmps8
  go_wp2_with fail
  refine c1.mono ?_
  rintro e w1 ⟨rfl, rfl⟩
  clear c1
  go_wp2_with fail
  refine c2.mono ?_
  rintro e w2 ⟨rfl, rfl⟩
  clear c2
  go_wp2_with fail
  refine (c3.out _).mono ?_
  rintro e w3 ⟨rfl, rfl⟩
  clear c3
  generalize (w2.alloc (.cells #[.bool true] 4)) = W0 at *
  have hwi : IntKind.i64.wrap (i : Int) = (i : Int) := by rw [IntKind.wrap_i64]; omega
  have hwj : IntKind.i64.wrap (j : Int) = (j : Int) := by rw [IntKind.wrap_i64]; omega
  go_wp2_with fail
  refine wp_region_mix (fun _ => True) 22 (by rfl) (by kernel_rfl) ?_
  have E1 : Hid (Ext w2 W0.drew) := E.out.trans ((Ext.refl W0).drewN 1)
  clear E
  generalize W0.drew = W1 at *
  refine wpMix_take (v := .slice x.a n x.c) 0 (by rfl) (by kernel_rfl) ⟨by rfl, ?_⟩ ?_
  · rintro W hW
    go_simp
  refine wpMix_take (v := .int .u8 i) 1 (by rfl) (by kernel_rfl) ⟨by rfl, ?_⟩ ?_
  · rintro W hW
    go_simp
  refine wpMix_take (v := .int .i64 i) 2 (by rfl) (by kernel_rfl) ⟨by rfl, ?_⟩ ?_
  · rintro W hW
    go_simp
  refine wpMix_take (v := .slice x.a n x.c) 3 (by rfl) (by kernel_rfl) ⟨by rfl, ?_⟩ ?_
  · rintro W hW
    go_simp
  refine wpMix_take (v := .int .i64 n) 4 (by rfl) (by kernel_rfl) ⟨by rfl, ?_⟩ ?_
  · rintro W hW
    go_simp
  refine wpMix_take (v := .int .i64 p) 5 (by rfl) (by kernel_rfl) ⟨by rfl, ?_⟩ ?_
  · rintro W hW
    go_simp
  refine wpMix_take (v := .slice y.a n y.c) 7 (by rfl) (by kernel_rfl) ⟨by rfl, ?_⟩ ?_
  · rintro W hW
    go_simp
  refine wpMix_take (v := .int .u8 j) 8 (by rfl) (by kernel_rfl) ⟨by rfl, ?_⟩ ?_
  · rintro W hW
    go_simp
  refine wpMix_take (v := .int .i64 j) 9 (by rfl) (by kernel_rfl) ⟨by rfl, ?_⟩ ?_
  · rintro W hW
    go_simp
  refine wpMix_take (v := .slice y.a n y.c) 10 (by rfl) (by kernel_rfl) ⟨by rfl, ?_⟩ ?_
  · rintro W hW
    go_simp
  refine wpMix_take (v := .int .i64 n) 11 (by rfl) (by kernel_rfl) ⟨by rfl, ?_⟩ ?_
  · rintro W hW
    go_simp
  refine wpMix_take (v := .int .i64 q) 12 (by rfl) (by kernel_rfl) ⟨by rfl, ?_⟩ ?_
  · rintro W hW
    go_simp
  refine wpMix_only 6 (by kernel_rfl) trivial ?_
  refine mOp_call (f := 18) (args := #[.slice x.a n x.c, .int .i64 p]) (w' := W1) (by rfl) (by rfl) ?_ ?_
  · go_simp
  refine (K1.out W1 E1.out).mono ?_
  rintro e W2 ⟨u1, rfl, hu1, hb1, hE2⟩
  refine ⟨_, rfl, ?_⟩
  have E2 : Hid (Ext w2 W2) := E1.out.trans hE2
  have B1 : Hid (Bits W2 u1) := hb1
  have U1 : Hid (u1.l = R1) := hu1
  clear hb1 hu1 hE2 E1 K1
  refine wpMix_only 13 (by kernel_rfl) trivial ?_
  refine mOp_call (f := 18) (args := #[.slice y.a n y.c, .int .i64 q]) (w' := W2) (by rfl) (by rfl) ?_ ?_
  · go_simp
  refine (K2.out W2 E2.out).mono ?_
  rintro e W3 ⟨u2, rfl, hu2, hb2, hE3⟩
  refine ⟨_, rfl, ?_⟩
  have E3 : Hid (Ext w2 W3) := E2.out.trans hE3
  have B2 : Hid (Bits W3 u2) := hb2
  have B1' : Hid (Bits W3 u1) := B1.out.ext hE3
  have U2 : Hid (u2.l = R2) := hu2
  have k4 := KB.out u1 u2 W3 B1'.out B2.out
  have HQ : Hid ((u1.l == u2.l) = (R1 == R2)) := by show _ = _; rw [U1.out, U2.out]
  rw [HQ.out] at k4
  clear hb2 hu2 hE3 E2 K2 B1 B2 B1' KB HQ
  refine wpMix_only 14 (by kernel_rfl) trivial ?_
  refine mOp_call (f := 17) (args := #[u1.v, u2.v]) (w' := W3) (by rfl) (by rfl) ?_ ?_
  · go_simp
  refine k4.mono ?_
  rintro e W4 ⟨rfl, hE4⟩
  refine ⟨_, rfl, ?_⟩
  have E4 : Hid (Ext w2 W4) := E3.out.trans hE4
  clear k4 hE4 E3
  by_cases h : R1 = R2
  · have h5 := AP.out h
    have k5 := KX.out h5 W4 E4.out
    have hb : (R1 == R2) = true := by rw [h]; simp
    rw [hb]
    clear hb h h5 AP KX
    refine wpMix_take (v := .bool false) 15 (by rfl) (by kernel_rfl) ⟨by rfl, ?_⟩ ?_
    · rintro W hW
      go_simp
    refine wpMix_take (v := .bool false) 16 (by rfl) (by kernel_rfl) ⟨by rfl, ?_⟩ ?_
    · rintro W hW
      go_simp
    refine wpMix_take (v := .slice x.a n x.c) 17 (by rfl) (by kernel_rfl) ⟨by kernel_rfl, ?_⟩ ?_
    · rintro W hW
      go_simp
    refine wpMix_take (v := .slice y.a n y.c) 18 (by rfl) (by kernel_rfl) ⟨by kernel_rfl, ?_⟩ ?_
    · rintro W hW
      go_simp
    refine wpMix_call 19 (w' := W4) 17 #[.slice x.a n x.c, .slice y.a n y.c] (by kernel_rfl) trivial (by rfl) (by kernel_rfl) ?_ ?_
    · go_simp
    refine k5.mono ?_
    rintro e W5 ⟨rfl, hE5⟩
    refine ⟨_, rfl, ?_⟩
    have E5 : Hid (Ext w2 W5) := E4.out.trans hE5
    clear k5 hE5 E4
    refine wpMix_take (v := .bool true) 20 (by rfl) (by kernel_rfl) ⟨by rfl, ?_⟩ ?_
    · rintro W hW
      go_simp
    refine wpMix_lastv (v := .bool true) (w' := W5) 21 (by kernel_rfl) (by kernel_rfl) (by rfl) (by rfl) trivial ?_ trivial ?_
    · go_simp
    simp only [Act.put, List.setIfInBounds_toArray, List.set_cons_zero, List.set_cons_succ]
    go_wp2
    go_ret
    exact ⟨rfl, E5.out⟩
  · have hb : (R1 == R2) = false := by rw [beq_eq_false_iff_ne]; exact h
    rw [hb]
    clear hb h AP KX
    refine wpMix_take (v := .bool true) 15 (by rfl) (by kernel_rfl) ⟨by rfl, ?_⟩ ?_
    · rintro W hW
      go_simp
    refine wpMix_take (v := .bool true) 16 (by rfl) (by kernel_rfl) ⟨by rfl, ?_⟩ ?_
    · rintro W hW
      go_simp
    refine wpMix_not2 17 18 (by kernel_rfl) trivial (by rfl) (by rfl) (by kernel_rfl) (by kernel_rfl) ?_ ?_
    · refine wpMix_not 18 (by kernel_rfl) trivial (by rfl) (by kernel_rfl) ?_
      refine wpMix_not 19 (by kernel_rfl) trivial (by rfl) (by kernel_rfl) ?_
      refine wpMix_take (v := .bool true) 20 (by rfl) (by kernel_rfl) ⟨by rfl, ?_⟩ ?_
      · rintro W hW
        go_simp
      refine wpMix_lastv (v := .bool true) (w' := W4) 21 (by kernel_rfl) (by kernel_rfl) (by rfl) (by rfl) trivial ?_ trivial ?_
      · go_simp
      simp only [Act.put, List.setIfInBounds_toArray, List.set_cons_zero, List.set_cons_succ]
      go_wp2
      go_ret
      exact ⟨rfl, E4.out⟩
    · refine wpMix_not 17 (by kernel_rfl) trivial (by rfl) (by kernel_rfl) ?_
      refine wpMix_not 19 (by kernel_rfl) trivial (by rfl) (by kernel_rfl) ?_
      refine wpMix_take (v := .bool true) 20 (by rfl) (by kernel_rfl) ⟨by rfl, ?_⟩ ?_
      · rintro W hW
        go_simp
      refine wpMix_lastv (v := .bool true) (w' := W4) 21 (by kernel_rfl) (by kernel_rfl) (by rfl) (by rfl) trivial ?_ trivial ?_
      · go_simp
      simp only [Act.put, List.setIfInBounds_toArray, List.set_cons_zero, List.set_cons_succ]
      go_wp2
      go_ret
      exact ⟨rfl, E4.out⟩

theorem dropApart_walk (x y : Wd) (i j : Int) (hi : (Lit.int .u8 i).wf = true) (hj : (Lit.int .u8 j).wf = true) (w : World) (hx : Bits w x) (hy : Bits w y) : Calls Try.prog 8 #[x.v, y.v, .int .u8 i, .int .u8 j] w fun e w' => e = .returned (.bool true) ∧ Ext w w' := by
  by_cases h : 12 < x.l.length
  · exact dropApart_largeA x y h i j w hx hy
  · by_cases h2 : 12 < y.l.length
    · exact dropApart_largeB x y (by omega) h2 i j w hx
    · by_cases h3 : x.l.length = y.l.length
      · by_cases h4 : x.l.length = 0
        · exact dropApart_early x y (by omega) (by omega) (.inr (.inl ⟨h3, h4⟩)) i j w hx hy
        · by_cases h5 : sm x.l = sm y.l
          · obtain ⟨k1, k2⟩ := u8_in hi
            obtain ⟨k3, k4⟩ := u8_in hj
            obtain ⟨a, rfl⟩ := Int.eq_ofNat_of_zero_le k1
            obtain ⟨b, rfl⟩ := Int.eq_ofNat_of_zero_le k3
            exact dropApart_good x y (by omega) h3 h4 h5 a b (by omega) (by omega) w hx hy
          · exact dropApart_early x y (by omega) (by omega) (.inr (.inr ⟨h3, h4, h5⟩)) i j w hx hy
      · exact dropApart_early x y (by omega) (by omega) (.inl h3) i j w hx hy

set_option maxRecDepth 100000 in
theorem dropApart_lifted (os : Os) (started : os.Started) (H : Type) (enc : TypeId × Value → H) :
    ReturnsInHanded {} Try.checked os 8 .any (Rows.dropApartSpec.pre6 enc Try.prog Try.f8 Rows.dropApartRow.domain false) (Rows.dropApartSpec.post enc Try.prog Try.f8 false true false false) := by
  refine returnsInHanded_of_change (C := Try.checked) own started (by kernel_rfl) Try.func8
    (ChangeSpec.witness6 (enc := enc) (C := Try.checked) false ⟨#[], #[.slice none 0 0, .slice none 0 0, .int .u8 0, .int .u8 0], []⟩ 8 (by kernel_rfl) (by kernel_rfl) (by kernel_rfl) (by kernel_rfl)) ?_
  intro W base args ds gs before hval0 hW _ _
  have hval : ∀ (j : Nat) t v, Try.f8.params[j]? = some t → args[j]? = some v → Value.okWide Try.prog W .any base t v := hval0
  have hW' := hW
  obtain ⟨p, q, hA0, hV, rfl, hfz, hnd⟩ := hW
  have hA : DataW.TrodAll enc Try.prog W 0 (fun _ => true) true Try.f8.params.toList args.toList ds p := hA0
  rw [Try.params8] at hA hval
  obtain ⟨v0, vs0, d0, ds0, p0, q0, hargs, rfl, rfl, h0, r0⟩ := trodAll_cons hA
  obtain ⟨v1, vs1, d1, ds1, p1, q1, rfl, rfl, rfl, h1, r1⟩ := trodAll_cons r0
  obtain ⟨v2, vs2, d2, ds2, p2, q2, rfl, rfl, rfl, h2, r2⟩ := trodAll_cons r1
  obtain ⟨v3, vs3, d3, ds3, p3, q3, rfl, rfl, rfl, h3, r3⟩ := trodAll_cons r2
  obtain ⟨rfl, rfl, rfl⟩ := trodAll_nil r3
  obtain rfl : args = #[v0, v1, v2, v3] := by cases args; simp_all
  obtain ⟨rfl, rfl⟩ := trodVars_none hV
  have lt0 : ∀ x ∈ p0, x.block < W.heap.size := by obtain ⟨m, hm⟩ := h0; exact DataW.trod_lt m _ _ _ hm
  obtain ⟨x0, rfl, w0⟩ := open_word (hval 0 22 v0 rfl rfl) h0
  have lt1 : ∀ x ∈ p1, x.block < W.heap.size := by obtain ⟨m, hm⟩ := h1; exact DataW.trod_lt m _ _ _ hm
  obtain ⟨x1, rfl, w1⟩ := open_word (hval 1 22 v1 rfl rfl) h1
  have lt2 : ∀ x ∈ p2, x.block < W.heap.size := by obtain ⟨m, hm⟩ := h2; exact DataW.trod_lt m _ _ _ hm
  obtain ⟨x2, rfl, -, -, wf2⟩ := open_int Try.underlying5 (hval 2 5 v2 rfl rfl) h2
  have lt3 : ∀ x ∈ p3, x.block < W.heap.size := by obtain ⟨m, hm⟩ := h3; exact DataW.trod_lt m _ _ _ hm
  obtain ⟨x3, rfl, -, -, wf3⟩ := open_int Try.underlying5 (hval 3 5 v3 rfl rfl) h3
  clear hA0 hval0
  refine (dropApart_walk x0 x1 x2 x3 wf2 wf3 W w0 w1).mono fun e W' ⟨he, bel⟩ => ?_
  subst he
  exact ⟨_, rfl, _, _, _, [], _, [], hW', trodAll_mk1 (shut_bool Try.underlying4 _), (trodAll_cons_mk (Below.trod laidOut (by kernel_rfl) (of_decide_eq_true (by kernel_rfl)) h0 bel lt0) (trodAll_cons_mk (Below.trod laidOut (by kernel_rfl) (of_decide_eq_true (by kernel_rfl)) h1 bel lt1) (trodAll_cons_mk (Below.trod laidOut (by kernel_rfl) (of_decide_eq_true (by kernel_rfl)) h2 bel lt2) (trodAll_cons_mk (Below.trod laidOut (by kernel_rfl) (of_decide_eq_true (by kernel_rfl)) h3 bel lt3) trodAll_mk0)))), rfl, bel.frame _, fun h => by cases h⟩

theorem dropApart_holds : Rows.DropApartSaid :=
  OpenClaim.holds_of_wide 8 Try.f8 rfl rfl rfl rfl rfl rfl rfl ⟨rfl, rfl, rfl, rfl, rfl⟩ rfl rfl rfl rfl rfl (by kernel_rfl) Try.func8 (by kernel_rfl)
    (of_decide_eq_true (by kernel_rfl)) (by unfold Func.isWrapper; rw [if_neg (of_decide_eq_false (by kernel_rfl))]; exact ⟨rfl, rfl⟩)
    (fun os started H enc _ => dropApart_lifted os started H enc)

#print axioms dropApart_holds

end Go.Proofs.Ytofdinddloejbaa
