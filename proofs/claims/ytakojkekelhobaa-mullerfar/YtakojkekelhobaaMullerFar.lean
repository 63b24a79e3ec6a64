/-
  For any two data what is put for them is not the same at 2 as often as variables, less the degree, at least: MullerFar returns true for every two numbers and every two lists of bits, and changes nothing.
-/
import Derived.Test.YtakojkekelhobaaOpen
import Derived.Test.YtakojkekelhobaaKp
namespace Go.Proofs.Ytakojkekelhobaa
open Go.ChangeShapes Go.WideShapes Go.ChangeAt Go.RowKit Go.Deep
set_option linter.unusedVariables false

theorem mullerFar_bad (r m : Int) (x y : Wd) (h : mce r m = 4) (hb : ¬ (0 ≤ m ∧ m ≤ 4 ∧ 0 ≤ r ∧ r ≤ m)) (w : World) : Calls Try.prog 6 #[.int .i64 r, .int .i64 m, x.v, y.v] w fun e w' => e = .returned (.bool true) ∧ Ext w w' := by
  have c1 := Put_bad r m x h w
  have c2 := Put_bad r m y h w
  simp only [Wd.v] at *
  clear h
  by_cases h1 : m < 0
  · clear hb
    go_enter Try.func6, Try.ntmps6
    go_wp2_with fail
    refine c1.mono ?_
    rintro e w1 ⟨rfl, rfl⟩
    clear c1
    go_wp2_with fail
    refine c2.mono ?_
    rintro e w1 ⟨rfl, rfl⟩
    clear c2
    go_wp2
    go_ret
    exact ⟨rfl, Ext.refl _⟩
  by_cases h2 : 4 < m
  · clear hb
    go_enter Try.func6, Try.ntmps6
    go_wp2_with fail
    refine c1.mono ?_
    rintro e w1 ⟨rfl, rfl⟩
    clear c1
    go_wp2_with fail
    refine c2.mono ?_
    rintro e w1 ⟨rfl, rfl⟩
    clear c2
    go_wp2
    go_ret
    exact ⟨rfl, Ext.refl _⟩
  by_cases h3 : r < 0
  · clear hb
    go_enter Try.func6, Try.ntmps6
    go_wp2_with fail
    refine c1.mono ?_
    rintro e w1 ⟨rfl, rfl⟩
    clear c1
    go_wp2_with fail
    refine c2.mono ?_
    rintro e w1 ⟨rfl, rfl⟩
    clear c2
    go_wp2
    go_ret
    exact ⟨rfl, Ext.refl _⟩
  have h4 : m < r := by omega
  clear hb
  go_enter Try.func6, Try.ntmps6
  go_wp2_with fail
  refine c1.mono ?_
  rintro e w1 ⟨rfl, rfl⟩
  clear c1
  go_wp2_with fail
  refine c2.mono ?_
  rintro e w1 ⟨rfl, rfl⟩
  clear c2
  go_wp2
  go_ret
  exact ⟨rfl, Ext.refl _⟩

/-- The first data are not so many. -/
theorem mullerFar_one {r m : Nat} (hm : m ≤ 4) (hr : r ≤ m) (x y : Wd) (hl : x.l.length ≠ (pl m (r + 1)).length) (w : World) (hy : Bits w y) : Calls Try.prog 6 #[.int .i64 r, .int .i64 m, x.v, y.v] w fun e w' => e = .returned (.bool true) ∧ Ext w w' := by
  have c1 := Put_form hm hr x hl w
  have c2 : Hid (∀ W, Ext w W → Calls Try.prog 11 #[.int .i64 r, .int .i64 m, y.v] W fun e w' => ∃ v f, e = .returned (.tuple #[v, .int .i64 f]) ∧ Ext W w') := fun W hW => by
    by_cases h2 : y.l.length = (pl m (r + 1)).length
    · refine (Put_good hm hr y h2 W (hy.ext hW)).mono ?_
      rintro e w' ⟨d, rfl, _, _, hE⟩
      exact ⟨_, _, rfl, hE⟩
    · refine (Put_form hm hr y h2 W).mono ?_
      rintro e w' ⟨rfl, hE⟩
      exact ⟨_, _, rfl, hE⟩
  simp only [Wd.v] at *
  have hrm : (r : Int) ≤ (m : Int) := by omega
  clear hl hy
  generalize x.l.length = k1 at *
  generalize y.l.length = k2 at *
  go_enter Try.func6, Try.ntmps6
  go_wp2_with fail
  refine c1.mono ?_
  rintro e w1 ⟨rfl, E1⟩
  have k2' := c2.out w1 E1
  have E1' : Hid (Ext w w1) := E1
  clear c1 c2 E1
  go_wp2_with fail
  refine k2'.mono ?_
  rintro e w2 ⟨v, f, rfl, E2⟩
  have E2' : Hid (Ext w w2) := E1'.out.trans E2
  clear k2' E2 E1'
  go_wp2
  go_ret
  exact ⟨rfl, E2'.out⟩

/-- The second data are not so many. -/
theorem mullerFar_two {r m : Nat} (hm : m ≤ 4) (hr : r ≤ m) (x y : Wd) (hl : x.l.length = (pl m (r + 1)).length) (hl2 : y.l.length ≠ (pl m (r + 1)).length) (w : World) (hx : Bits w x) : Calls Try.prog 6 #[.int .i64 r, .int .i64 m, x.v, y.v] w fun e w' => e = .returned (.bool true) ∧ Ext w w' := by
  have c1 := put_is hm hr x hl w hx
  have c2 : Hid (∀ W, Calls Try.prog 11 #[.int .i64 r, .int .i64 m, y.v] W fun e w' => e = .returned (.tuple #[.slice none 0 0, .int .i64 3]) ∧ Ext W w') := fun W => Put_form hm hr y hl2 W
  simp only [Wd.v] at *
  rw [hl] at *
  have hrm : (r : Int) ≤ (m : Int) := by omega
  clear hl hl2 hx
  generalize (pl m (r + 1)).length = k1 at *
  generalize y.l.length = k2 at *
  generalize 2 ^ m = M at *
  go_enter Try.func6, Try.ntmps6
  go_wp2_with fail
  refine c1.mono ?_
  rintro e w1 ⟨a, c, rfl, _, E1⟩
  have E1' : Hid (Ext w w1) := E1
  clear c1 E1
  go_wp2_with fail
  refine (c2.out _).mono ?_
  rintro e w2 ⟨rfl, E2⟩
  have E2' : Hid (Ext w w2) := E1'.out.trans E2
  clear c2 E2 E1'
  go_wp2
  go_ret
  exact ⟨rfl, E2'.out⟩

set_option maxHeartbeats 2000000 in
set_option maxRecDepth 100000 in
theorem mullerFar_good {r m : Nat} (hm : m ≤ 4) (hr : r ≤ m) (x y : Wd) (hl : x.l.length = (pl m (r + 1)).length) (hl2 : y.l.length = (pl m (r + 1)).length) (w : World) (hx : Bits w x) (hy : Bits w y) :
    Calls Try.prog 6 #[.int .i64 r, .int .i64 m, x.v, y.v] w fun e w' => e = .returned (.bool true) ∧ Ext w w' := by
  have pw := pow_four m hm
  have lim := pow_lim hm
  have c1 := put_is hm hr x hl w hx
  have c2 : Hid (∀ W, Ext w W → Calls Try.prog 11 #[.int .i64 r, .int .i64 m, .slice y.a (pl m (r + 1)).length y.c] W fun e w' => ∃ (a : Option Addr) (c : Nat), e = .returned (.tuple #[.slice a (2 ^ m : Nat) c, .int .i64 0]) ∧ Bits w' ⟨a, c, pb m r y.l⟩ ∧ Ext W w') := fun W hW => put_is hm hr y hl2 W (hy.ext hW)
  have ML1 := pb_len m r x.l
  have ML2 := pb_len m r y.l
  have FAR : x.l ≠ y.l → 2 ^ (m - r) ≤ df (pb m r x.l) (pb m r y.l) := pb_far hm hr hl hl2
  have SAME : x.l = y.l → pb m r x.l = pb m r y.l := fun h => by rw [h]
  have B1 : Hid (∀ W, Ext w W → Calls Try.prog 12 #[.slice x.a (pl m (r + 1)).length x.c, .slice y.a (pl m (r + 1)).length y.c] W fun e w' => e = .returned (.bool (x.l == y.l)) ∧ Qt W w') := fun W hW => bools_is x.a x.c x.l y.a y.c y.l _ _ hl hl2 W (hx.ext hW) (hy.ext hW)
  have pwD := pow_four (m - r) (by omega)
  have DL : df (pb m r x.l) (pb m r y.l) ≤ 2 ^ m := by unfold df; rw [pb_len]; exact ct_le _ _
  have hmr : (m : Int) - (r : Int) = ((m - r : Nat) : Int) := by omega
  have D4 : m - r ≤ 4 := by omega
  have lim2 := pow_lim D4
  have hrm : (r : Int) ≤ (m : Int) := by omega
  simp only [Wd.v]
  rw [hl, hl2]
  clear hx hy hl hl2
  generalize (pl m (r + 1)).length = n at *
  generalize pb m r x.l = HA at *
  generalize pb m r y.l = HB at *
  generalize x.a = xa at *
  generalize x.c = xc at *
  generalize y.a = ya at *
  generalize y.c = yc at *
  generalize x.l = l1 at *
  generalize y.l = l2 at *
  generalize m - r = D at *
  generalize 2 ^ m = M at *
  generalize 2 ^ D = K at *
  clear x y
  have BQ : Hid (∀ a c a' c' W, Bits W ⟨a, c, HA⟩ → Bits W ⟨a', c', HB⟩ → Calls Try.prog 12 #[.slice a M c, .slice a' M c'] W fun e w' => e = .returned (.bool (HA == HB)) ∧ Qt W w') := fun a c a' c' W h h' => bools_is a c HA a' c' HB M M ML1 ML2 W h h'
  have DQ : Hid (∀ a c a' c' W, Bits W ⟨a, c, HA⟩ → Bits W ⟨a', c', HB⟩ → Calls Try.prog 16 #[.slice a M c, .slice a' M c'] W fun e w' => e = .returned (.int .i64 (df HA HB : Nat)) ∧ Qt W w') := fun a c a' c' W h h' => differ_is a c HA a' c' HB M lim.2 ML1 ML2 W h h'
  generalize df HA HB = q at *
  by_cases he : l1 = l2
  · have hh := SAME he
    rw [he, beq_self_eq_true] at B1
    rw [hh, beq_self_eq_true] at BQ
    clear FAR SAME he ML1 ML2 DQ DL pwD
    subst hh
    go_enter Try.func6, Try.ntmps6
    go_wp2_with fail
    refine c1.mono ?_
    rintro e w1 ⟨a1, k1, rfl, b1, E1⟩
    have k2 := c2.out w1 E1
    have HB1 : Hid (Bits w1 ⟨a1, k1, HA⟩) := b1
    have E1' : Hid (Ext w w1) := E1
    clear c1 c2 b1 E1
    go_wp2_with fail
    refine k2.mono ?_
    rintro e w2 ⟨a2, k2', rfl, b2, E2⟩
    have HB2 : Hid (Bits w2 ⟨a2, k2', HA⟩) := b2
    have HB1' : Hid (Bits w2 ⟨a1, k1, HA⟩) := HB1.out.ext E2
    have E2' : Hid (Ext w w2) := E1'.out.trans E2
    have k3 := B1.out w2 E2'.out
    clear k2 b2 E2 HB1 E1' B1
    go_wp2_with fail
    refine k3.mono ?_
    rintro e w3 ⟨rfl, q3⟩
    have k4 := BQ.out a1 k1 a2 k2' w3 (HB1'.out.ext q3.ext) (HB2.out.ext q3.ext)
    have E3 : Hid (Ext w w3) := E2'.out.trans q3.ext
    clear k3 q3 HB1' HB2 E2' BQ
    go_wp2_with fail
    refine k4.mono ?_
    rintro e w4 ⟨rfl, q4⟩
    have E4 : Hid (Ext w w4) := E3.out.trans q4.ext
    clear k4 q4 E3
    go_wp2
    go_ret
    exact ⟨rfl, E4.out⟩
  · have hf := FAR he
    have hq : (K : Int) ≤ (q : Int) := by omega
    rw [show (l1 == l2) = false from beq_eq_false_iff_ne.2 he] at B1
    clear FAR SAME he ML1 ML2 BQ hf
    go_enter Try.func6, Try.ntmps6
    go_wp2_with fail
    refine c1.mono ?_
    rintro e w1 ⟨a1, k1, rfl, b1, E1⟩
    have k2 := c2.out w1 E1
    have HB1 : Hid (Bits w1 ⟨a1, k1, HA⟩) := b1
    have E1' : Hid (Ext w w1) := E1
    clear c1 c2 b1 E1
    go_wp2_with fail
    refine k2.mono ?_
    rintro e w2 ⟨a2, k2', rfl, b2, E2⟩
    have HB2 : Hid (Bits w2 ⟨a2, k2', HB⟩) := b2
    have HB1' : Hid (Bits w2 ⟨a1, k1, HA⟩) := HB1.out.ext E2
    have E2' : Hid (Ext w w2) := E1'.out.trans E2
    have k3 := B1.out w2 E2'.out
    clear k2 b2 E2 HB1 E1'
    go_wp2_with fail
    refine k3.mono ?_
    rintro e w3 ⟨rfl, q3⟩
    have E3 : Hid (Ext w w3) := E2'.out.trans q3.ext
    have k4 := B1.out w3 E3.out
    have HB1'' : Hid (Bits w3 ⟨a1, k1, HA⟩) := HB1'.out.ext q3.ext
    have HB2'' : Hid (Bits w3 ⟨a2, k2', HB⟩) := HB2.out.ext q3.ext
    clear k3 q3 HB1' HB2 E2' B1
    go_wp2_with fail
    refine k4.mono ?_
    rintro e w4 ⟨rfl, q4⟩
    have E4 : Hid (Ext w w4) := E3.out.trans q4.ext
    have k5 := DQ.out a1 k1 a2 k2' w4 (HB1''.out.ext q4.ext) (HB2''.out.ext q4.ext)
    clear k4 q4 E3 HB1'' HB2'' DQ
    go_wp2_with fail
    refine k5.mono ?_
    rintro e w5 ⟨rfl, q5⟩
    have E5 : Hid (Ext w w5) := E4.out.trans q5.ext
    clear k5 q5 E4
    go_wp2
    go_ret
    exact ⟨rfl, E5.out⟩

theorem mullerFar_walk (r m : Int) (x y : Wd) (w : World) (hx : Bits w x) (hy : Bits w y) : Calls Try.prog 6 #[.int .i64 r, .int .i64 m, x.v, y.v] w fun e w' => e = .returned (.bool true) ∧ Ext w w' := by
  by_cases h : 0 ≤ m ∧ m ≤ 4 ∧ 0 ≤ r ∧ r ≤ m
  · obtain ⟨M, rfl⟩ : ∃ M : Nat, m = M := ⟨m.toNat, by omega⟩
    obtain ⟨R, rfl⟩ : ∃ R : Nat, r = R := ⟨r.toNat, by omega⟩
    by_cases h1 : x.l.length = (pl M (R + 1)).length
    · by_cases h2 : y.l.length = (pl M (R + 1)).length
      · exact mullerFar_good (by omega) (by omega) x y h1 h2 w hx hy
      · exact mullerFar_two (by omega) (by omega) x y h1 h2 w hx
    · exact mullerFar_one (by omega) (by omega) x y h1 w hy
  · exact mullerFar_bad r m x y (mce_bad h) h w

set_option maxRecDepth 100000 in
theorem mullerFar_lifted (os : Os) (started : os.Started) (H : Type) (enc : TypeId × Value → H) :
    ReturnsInHanded {} Try.checked os 6 .any (Rows.mullerFarSpec.pre6 enc Try.prog Try.f6 Rows.mullerFarRow.domain false) (Rows.mullerFarSpec.post enc Try.prog Try.f6 false true false false) := by
  refine returnsInHanded_of_change (C := Try.checked) own started (by kernel_rfl) Try.func6
    (ChangeSpec.witness6 (enc := enc) (C := Try.checked) false ⟨#[], #[.int .i64 0, .int .i64 0, .slice none 0 0, .slice none 0 0], []⟩ 8 (by kernel_rfl) (by kernel_rfl) (by kernel_rfl) (by kernel_rfl)) ?_
  intro W base args ds gs before hval0 hW _ _
  have hval : ∀ (j : Nat) t v, Try.f6.params[j]? = some t → args[j]? = some v → Value.okWide Try.prog W .any base t v := hval0
  have hW' := hW
  obtain ⟨p, q, hA0, hV, rfl, hfz, hnd⟩ := hW
  have hA : DataW.TrodAll enc Try.prog W 0 (fun _ => true) true Try.f6.params.toList args.toList ds p := hA0
  rw [Try.params6] at hA hval
  obtain ⟨v0, vs0, d0, ds0, p0, q0, hargs, rfl, rfl, h0, r0⟩ := trodAll_cons hA
  obtain ⟨v1, vs1, d1, ds1, p1, q1, rfl, rfl, rfl, h1, r1⟩ := trodAll_cons r0
  obtain ⟨v2, vs2, d2, ds2, p2, q2, rfl, rfl, rfl, h2, r2⟩ := trodAll_cons r1
  obtain ⟨v3, vs3, d3, ds3, p3, q3, rfl, rfl, rfl, h3, r3⟩ := trodAll_cons r2
  obtain ⟨rfl, rfl, rfl⟩ := trodAll_nil r3
  obtain rfl : args = #[v0, v1, v2, v3] := by cases args; simp_all
  obtain ⟨rfl, rfl⟩ := trodVars_none hV
  have lt0 : ∀ x ∈ p0, x.block < W.heap.size := by obtain ⟨m, hm⟩ := h0; exact DataW.trod_lt m _ _ _ hm
  obtain ⟨x0, rfl, -, -, wf0⟩ := open_int Try.underlying3 (hval 0 3 v0 rfl rfl) h0
  have lt1 : ∀ x ∈ p1, x.block < W.heap.size := by obtain ⟨m, hm⟩ := h1; exact DataW.trod_lt m _ _ _ hm
  obtain ⟨x1, rfl, -, -, wf1⟩ := open_int Try.underlying3 (hval 1 3 v1 rfl rfl) h1
  have lt2 : ∀ x ∈ p2, x.block < W.heap.size := by obtain ⟨m, hm⟩ := h2; exact DataW.trod_lt m _ _ _ hm
  obtain ⟨x2, rfl, w2⟩ := open_word (hval 2 29 v2 rfl rfl) h2
  have lt3 : ∀ x ∈ p3, x.block < W.heap.size := by obtain ⟨m, hm⟩ := h3; exact DataW.trod_lt m _ _ _ hm
  obtain ⟨x3, rfl, w3⟩ := open_word (hval 3 29 v3 rfl rfl) h3
  clear hA0 hval0
  refine (mullerFar_walk x0 x1 x2 x3 W w2 w3).mono fun e W' ⟨he, bel⟩ => ?_
  subst he
  exact ⟨_, rfl, _, _, _, [], _, [], hW', trodAll_mk1 (shut_bool Try.underlying4 _), (trodAll_cons_mk (Below.trod laidOut (by kernel_rfl) (of_decide_eq_true (by kernel_rfl)) h0 bel lt0) (trodAll_cons_mk (Below.trod laidOut (by kernel_rfl) (of_decide_eq_true (by kernel_rfl)) h1 bel lt1) (trodAll_cons_mk (Below.trod laidOut (by kernel_rfl) (of_decide_eq_true (by kernel_rfl)) h2 bel lt2) (trodAll_cons_mk (Below.trod laidOut (by kernel_rfl) (of_decide_eq_true (by kernel_rfl)) h3 bel lt3) trodAll_mk0)))), rfl, bel.frame _, fun h => by cases h⟩

theorem mullerFar_holds : Rows.MullerFarSaid :=
  OpenClaim.holds_of_wide 6 Try.f6 rfl rfl rfl rfl rfl rfl rfl ⟨rfl, rfl, rfl, rfl, rfl⟩ rfl rfl rfl rfl rfl (by kernel_rfl) Try.func6 (by kernel_rfl)
    (of_decide_eq_true (by kernel_rfl)) (by unfold Func.isWrapper; rw [if_neg (of_decide_eq_false (by kernel_rfl))]; exact ⟨rfl, rfl⟩)
    (fun os started H enc _ => mullerFar_lifted os started H enc)

#print axioms mullerFar_holds

end Go.Proofs.Ytakojkekelhobaa
