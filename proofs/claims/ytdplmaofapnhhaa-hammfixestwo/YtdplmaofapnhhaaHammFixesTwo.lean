/-
  For any bits the program tells data, and which place was turned, or that two were: HammFixesTwo returns true for every number and every list of bits, and changes nothing.
-/
import Derived.Test.YtdplmaofapnhhaaOpen
import Derived.Test.YtdplmaofapnhhaaFac
import Derived.Test.YtdplmaofapnhhaaRhm
import Derived.Test.YtdplmaofapnhhaaFxd
namespace Go.Proofs.Ytdplmaofapnhhaa
open Go.ChangeShapes Go.WideShapes Go.ChangeAt Go.RowKit Go.Deep
set_option linter.unusedVariables false

theorem hammFixesTwo_bad (r : Int) (x : Wd) (w : World) (h : cke r x.l.length 1 ≠ 0) : Calls Try.prog 6 #[.int .i64 r, x.v] w fun e w' => e = .returned (.bool true) ∧ Ext w w' := by
  have c1 := Fix2_bad r x h w
  have c2 := refCheck1_any r x.l.length w
  have hb : (cke r x.l.length 1 == 0) = false := beq_eq_false_iff_ne.2 h
  generalize cke r x.l.length 1 = E at *
  simp only [Wd.v] at *
  go_enter Try.func6, Try.ntmps6
  go_wp2_with fail
  refine c1.mono ?_
  rintro e w1 ⟨rfl, rfl⟩
  clear c1
  go_wp2_with fail
  refine c2.mono ?_
  rintro e w1 ⟨rfl, rfl⟩
  clear c2
  go_wp2
  go_ret
  exact ⟨rfl, Ext.refl _⟩

set_option maxHeartbeats 2000000 in
theorem hammFixesTwo_zero {r : Nat} (hr : R r) (x : Wd) (w : World) (hd : x.l.length = 2 ^ r - 1 + 1) (hx : Bits w x) (L : List Bool) (hL : L = x.l.take (2 ^ r - 1)) (h0 : pf 1 L = 0) : Calls Try.prog 6 #[.int .i64 r, x.v] w fun e w' => e = .returned (.bool true) ∧ Ext w w' := by
  have c1 := Fix2_zero hr x hd L hL w hx h0
  have c2 : Hid (∀ W, Calls Try.prog 10 #[.int .i64 r, .int .i64 x.l.length, .int .i64 1] W fun e w' => e = .returned (.int .i64 0) ∧ w' = W) := fun W => by
    have := refCheck1_any r x.l.length W
    rw [cke_good hr ((len_bits2 hr).2 hd)] at this
    exact this
  have hl : L.length = 2 ^ r - 1 := by rw [hL, List.length_take]; omega
  have c3 : Hid (∀ W, Ext w W → Calls Try.prog 14 #[.int .i64 r, .slice x.a (2 ^ r - 1) x.c] W fun e w' => ∃ v, e = .returned (.tuple #[v, .int .i64 (pf 1 L : Nat)]) ∧ OwnB W w' v (dt 1 (fx L))) := fun W e => by
    have hb : Bits W ⟨x.a, x.c, L⟩ := by rw [hL]; exact (hx.ext e).front (by omega)
    have := fixed_any hr ⟨x.a, x.c, L⟩ hl W hb
    simp only [Wd.v, hl] at this
    exact this
  have c4 : Hid (∀ W, Ext w W → Calls Try.prog 16 #[x.v] W fun e w' => e = .returned (.bool (ob x.l)) ∧ w' = W) := fun W e => oddBits_any x W (hx.ext e)
  have BQ : Hid (∀ (y z : Wd) W, Bits W y → Bits W z → Calls Try.prog 11 #[y.v, z.v] W fun e w' => e = .returned (.bool (y.l == z.l)) ∧ Qt W w') := fun y z W h h' => bools_any y z W h h'
  have h1 := hx.1
  have h2 := hx.2.1
  simp only [Wd.v] at c1 c2 c3 c4 ⊢
  rw [hd] at c1 c2 c4 h1 ⊢
  have hn1 : 2 ^ r - 1 ≤ x.c := by omega
  unfold maxLen at h2
  clear hx hd hr hl hL
  generalize dt 1 (fx L) = H at *
  generalize pf 1 L = p at *
  generalize ob x.l = tb at *
  generalize 2 ^ r - 1 = n at *
  subst h0
  rw [Int.natCast_add] at c2
  go_enter Try.func6, Try.ntmps6
  go_wp2_with fail
  refine c1.mono ?_
  rintro e w1 ⟨v1, rfl, O1⟩
  obtain ⟨y1, rfl, hy1, hb1⟩ := O1.bits
  have Y1 : Hid (y1.l = H ∧ Bits w1 y1) := ⟨hy1, hb1⟩
  have E1 : Hid (Ext w w1) := O1.1
  obtain ⟨v1, hv1⟩ : ∃ v, y1.v = v := ⟨_, rfl⟩
  rw [hv1]
  have HV1 : Hid (y1.v = v1) := hv1
  have k2 := c2.out w1
  clear c1 c2 O1 hy1 hb1 hv1
  go_wp2_with fail
  refine k2.mono ?_
  rintro e w1' ⟨rfl, rfl⟩
  have k3 := c3.out w1' E1.out
  clear k2 c3
  go_wp2_with fail
  refine k3.mono ?_
  rintro e w3 ⟨v3, rfl, O3⟩
  obtain ⟨y3, rfl, hy3, hb3⟩ := O3.bits
  have k4 := BQ.out y1 y3 w3 (Y1.out.2.ext O3.1) hb3
  rw [Y1.out.1, hy3, beq_self_eq_true, HV1.out] at k4
  have E3 : Hid (Ext w w3) := E1.out.trans O3.1
  have k5 := c4.out w3 E3.out
  clear k3 hy3 hb3 O3 BQ Y1 E1 c4
  generalize y3.v = v3 at *
  go_wp2_with fail
  refine k5.mono ?_
  rintro e w3' ⟨rfl, rfl⟩
  clear k5
  cases tb
  all_goals
    go_wp2_with fail
    refine k4.mono ?_
    rintro e w4 ⟨rfl, q4⟩
    have E4 : Hid (Ext w w4) := E3.out.trans q4.ext
    clear k4 q4 E3
    go_wp2
    go_ret
    exact ⟨ret_bool (by simp), E4.out⟩

set_option maxHeartbeats 2000000 in
theorem hammFixesTwo_odd {r : Nat} (hr : R r) (x : Wd) (w : World) (hd : x.l.length = 2 ^ r - 1 + 1) (hx : Bits w x) (L : List Bool) (hL : L = x.l.take (2 ^ r - 1)) (ho : ob x.l = true) : Calls Try.prog 6 #[.int .i64 r, x.v] w fun e w' => e = .returned (.bool true) ∧ Ext w w' := by
  have c1 := Fix2_odd hr x hd L hL w hx ho
  have c2 : Hid (∀ W, Calls Try.prog 10 #[.int .i64 r, .int .i64 x.l.length, .int .i64 1] W fun e w' => e = .returned (.int .i64 0) ∧ w' = W) := fun W => by
    have := refCheck1_any r x.l.length W
    rw [cke_good hr ((len_bits2 hr).2 hd)] at this
    exact this
  have hl : L.length = 2 ^ r - 1 := by rw [hL, List.length_take]; omega
  have c3 : Hid (∀ W, Ext w W → Calls Try.prog 14 #[.int .i64 r, .slice x.a (2 ^ r - 1) x.c] W fun e w' => ∃ v, e = .returned (.tuple #[v, .int .i64 (pf 1 L : Nat)]) ∧ OwnB W w' v (dt 1 (fx L))) := fun W e => by
    have hb : Bits W ⟨x.a, x.c, L⟩ := by rw [hL]; exact (hx.ext e).front (by omega)
    have := fixed_any hr ⟨x.a, x.c, L⟩ hl W hb
    simp only [Wd.v, hl] at this
    exact this
  have c4 : Hid (∀ W, Ext w W → Calls Try.prog 16 #[x.v] W fun e w' => e = .returned (.bool (ob x.l)) ∧ w' = W) := fun W e => oddBits_any x W (hx.ext e)
  have BQ : Hid (∀ (y z : Wd) W, Bits W y → Bits W z → Calls Try.prog 11 #[y.v, z.v] W fun e w' => e = .returned (.bool (y.l == z.l)) ∧ Qt W w') := fun y z W h h' => bools_any y z W h h'
  have h1 := hx.1
  have h2 := hx.2.1
  simp only [Wd.v] at c1 c2 c3 c4 ⊢
  rw [hd] at c1 c2 c4 h1 ⊢
  have hn1 : 2 ^ r - 1 ≤ x.c := by omega
  unfold maxLen at h2
  clear hx hd hr hl hL
  generalize dt 1 (fx L) = H at *
  generalize pf 1 L = p at *
  generalize ob x.l = tb at *
  generalize 2 ^ r - 1 = n at *
  subst ho
  rw [Int.natCast_add] at c2
  go_enter Try.func6, Try.ntmps6
  go_wp2_with fail
  refine c1.mono ?_
  rintro e w1 ⟨v1, rfl, O1⟩
  obtain ⟨y1, rfl, hy1, hb1⟩ := O1.bits
  have Y1 : Hid (y1.l = H ∧ Bits w1 y1) := ⟨hy1, hb1⟩
  have E1 : Hid (Ext w w1) := O1.1
  obtain ⟨v1, hv1⟩ : ∃ v, y1.v = v := ⟨_, rfl⟩
  rw [hv1]
  have HV1 : Hid (y1.v = v1) := hv1
  have k2 := c2.out w1
  clear c1 c2 O1 hy1 hb1 hv1
  go_wp2_with fail
  refine k2.mono ?_
  rintro e w1' ⟨rfl, rfl⟩
  have k3 := c3.out w1' E1.out
  clear k2 c3
  go_wp2_with fail
  refine k3.mono ?_
  rintro e w3 ⟨v3, rfl, O3⟩
  obtain ⟨y3, rfl, hy3, hb3⟩ := O3.bits
  have k4 := BQ.out y1 y3 w3 (Y1.out.2.ext O3.1) hb3
  rw [Y1.out.1, hy3, beq_self_eq_true, HV1.out] at k4
  have E3 : Hid (Ext w w3) := E1.out.trans O3.1
  have k5 := c4.out w3 E3.out
  clear k3 hy3 hb3 O3 BQ Y1 E1 c4
  generalize y3.v = v3 at *
  go_wp2_with fail
  refine k5.mono ?_
  rintro e w3' ⟨rfl, rfl⟩
  clear k5
  go_wp2_with fail
  refine k4.mono ?_
  rintro e w4 ⟨rfl, q4⟩
  have E4 : Hid (Ext w w4) := E3.out.trans q4.ext
  clear k4 q4 E3
  go_wp2
  go_ret
  exact ⟨ret_bool (by simp), E4.out⟩

set_option maxHeartbeats 2000000 in
theorem hammFixesTwo_even {r : Nat} (hr : R r) (x : Wd) (w : World) (hd : x.l.length = 2 ^ r - 1 + 1) (hx : Bits w x) (L : List Bool) (hL : L = x.l.take (2 ^ r - 1)) (h0 : pf 1 L ≠ 0) (ho : ob x.l = false) : Calls Try.prog 6 #[.int .i64 r, x.v] w fun e w' => e = .returned (.bool true) ∧ Ext w w' := by
  have c1 := Fix2_even hr x hd L hL w hx h0 ho
  have c2 : Hid (∀ W, Calls Try.prog 10 #[.int .i64 r, .int .i64 x.l.length, .int .i64 1] W fun e w' => e = .returned (.int .i64 0) ∧ w' = W) := fun W => by
    have := refCheck1_any r x.l.length W
    rw [cke_good hr ((len_bits2 hr).2 hd)] at this
    exact this
  have hl : L.length = 2 ^ r - 1 := by rw [hL, List.length_take]; omega
  have c3 : Hid (∀ W, Ext w W → Calls Try.prog 14 #[.int .i64 r, .slice x.a (2 ^ r - 1) x.c] W fun e w' => ∃ v, e = .returned (.tuple #[v, .int .i64 (pf 1 L : Nat)]) ∧ OwnB W w' v (dt 1 (fx L))) := fun W e => by
    have hb : Bits W ⟨x.a, x.c, L⟩ := by rw [hL]; exact (hx.ext e).front (by omega)
    have := fixed_any hr ⟨x.a, x.c, L⟩ hl W hb
    simp only [Wd.v, hl] at this
    exact this
  have c4 : Hid (∀ W, Ext w W → Calls Try.prog 16 #[x.v] W fun e w' => e = .returned (.bool (ob x.l)) ∧ w' = W) := fun W e => oddBits_any x W (hx.ext e)
  have BQ : Hid (∀ (y z : Wd) W, Bits W y → Bits W z → Calls Try.prog 11 #[y.v, z.v] W fun e w' => e = .returned (.bool (y.l == z.l)) ∧ Qt W w') := fun y z W h h' => bools_any y z W h h'
  have h1 := hx.1
  have h2 := hx.2.1
  simp only [Wd.v] at c1 c2 c3 c4 ⊢
  rw [hd] at c1 c2 c4 h1 ⊢
  have hn1 : 2 ^ r - 1 ≤ x.c := by omega
  unfold maxLen at h2
  clear hx hd hr hl hL
  generalize dt 1 (fx L) = H at *
  generalize pf 1 L = p at *
  generalize ob x.l = tb at *
  generalize 2 ^ r - 1 = n at *
  subst ho
  have hne : ((p : Int) == 0) = false := beq_eq_false_iff_ne.2 (by omega)
  rw [Int.natCast_add] at c2
  go_enter Try.func6, Try.ntmps6
  go_wp2_with fail
  refine c1.mono ?_
  rintro e w1 ⟨rfl, X1⟩
  have E1 : Hid (Ext w w1) := X1
  have k2 := c2.out w1
  clear c1 c2 X1
  go_wp2_with fail
  refine k2.mono ?_
  rintro e w1' ⟨rfl, rfl⟩
  have k3 := c3.out w1' E1.out
  clear k2 c3
  go_wp2_with fail
  refine k3.mono ?_
  rintro e w3 ⟨v3, rfl, O3⟩
  have E3 : Hid (Ext w w3) := E1.out.trans O3.1
  have k5 := c4.out w3 E3.out
  clear k3 O3 c4 E1
  go_wp2_with fail
  refine k5.mono ?_
  rintro e w4 ⟨rfl, rfl⟩
  clear k5
  go_wp2
  go_ret
  exact ⟨rfl, E3.out⟩

theorem hammFixesTwo_walk (r : Int) (x : Wd) (w : World) (hx : Bits w x) : Calls Try.prog 6 #[.int .i64 r, x.v] w fun e w' => e = .returned (.bool true) ∧ Ext w w' := by
  by_cases h : cke r x.l.length 1 = 0
  · obtain ⟨m, rfl, hr, hn⟩ := of_cke h
    have hd := (len_bits2 hr).1 hn
    by_cases h0 : pf 1 (x.l.take (2 ^ m - 1)) = 0
    · exact hammFixesTwo_zero hr x w hd hx _ rfl h0
    · cases ho : ob x.l
      · exact hammFixesTwo_even hr x w hd hx _ rfl h0 ho
      · exact hammFixesTwo_odd hr x w hd hx _ rfl ho
  · exact hammFixesTwo_bad r x w h

set_option maxRecDepth 100000 in
theorem hammFixesTwo_lifted (os : Os) (started : os.Started) (H : Type) (enc : TypeId × Value → H) :
    ReturnsInHanded {} Try.checked os 6 .any (Rows.hammFixesTwoSpec.pre6 enc Try.prog Try.f6 Rows.hammFixesTwoRow.domain false) (Rows.hammFixesTwoSpec.post enc Try.prog Try.f6 false true false false) := by
  refine returnsInHanded_of_change (C := Try.checked) own started (by kernel_rfl) Try.func6
    (ChangeSpec.witness6 (enc := enc) (C := Try.checked) false ⟨#[], #[.int .i64 0, .slice none 0 0], []⟩ 8 (by kernel_rfl) (by kernel_rfl) (by kernel_rfl) (by kernel_rfl)) ?_
  intro W base args ds gs before hval0 hW _ _
  have hval : ∀ (j : Nat) t v, Try.f6.params[j]? = some t → args[j]? = some v → Value.okWide Try.prog W .any base t v := hval0
  have hW' := hW
  obtain ⟨p, q, hA0, hV, rfl, hfz, hnd⟩ := hW
  have hA : DataW.TrodAll enc Try.prog W 0 (fun _ => true) true Try.f6.params.toList args.toList ds p := hA0
  rw [Try.params6] at hA hval
  obtain ⟨v0, vs0, d0, ds0, p0, q0, hargs, rfl, rfl, h0, r0⟩ := trodAll_cons hA
  obtain ⟨v1, vs1, d1, ds1, p1, q1, rfl, rfl, rfl, h1, r1⟩ := trodAll_cons r0
  obtain ⟨rfl, rfl, rfl⟩ := trodAll_nil r1
  obtain rfl : args = #[v0, v1] := by cases args; simp_all
  obtain ⟨rfl, rfl⟩ := trodVars_none hV
  have lt0 : ∀ x ∈ p0, x.block < W.heap.size := by obtain ⟨m, hm⟩ := h0; exact DataW.trod_lt m _ _ _ hm
  obtain ⟨x0, rfl, -, -, wf0⟩ := open_int Try.underlying3 (hval 0 3 v0 rfl rfl) h0
  have lt1 : ∀ x ∈ p1, x.block < W.heap.size := by obtain ⟨m, hm⟩ := h1; exact DataW.trod_lt m _ _ _ hm
  obtain ⟨x1, rfl, w1⟩ := open_word (hval 1 22 v1 rfl rfl) h1
  clear hA0 hval0
  refine (hammFixesTwo_walk x0 x1 W w1).mono fun e W' ⟨he, bel⟩ => ?_
  subst he
  exact ⟨_, rfl, _, _, _, [], _, [], hW', trodAll_mk1 (shut_bool Try.underlying4 _), (trodAll_cons_mk (Below.trod laidOut (by kernel_rfl) (of_decide_eq_true (by kernel_rfl)) h0 bel lt0) (trodAll_cons_mk (Below.trod laidOut (by kernel_rfl) (of_decide_eq_true (by kernel_rfl)) h1 bel lt1) trodAll_mk0)), rfl, bel.frame _, fun h => by cases h⟩

theorem hammFixesTwo_holds : Rows.HammFixesTwoSaid :=
  OpenClaim.holds_of_wide 6 Try.f6 rfl rfl rfl rfl rfl rfl rfl ⟨rfl, rfl, rfl, rfl, rfl⟩ rfl rfl rfl rfl rfl (by kernel_rfl) Try.func6 (by kernel_rfl)
    (of_decide_eq_true (by kernel_rfl)) (by unfold Func.isWrapper; rw [if_neg (of_decide_eq_false (by kernel_rfl))]; exact ⟨rfl, rfl⟩)
    (fun os started H enc _ => hammFixesTwo_lifted os started H enc)

#print axioms hammFixesTwo_holds

end Go.Proofs.Ytdplmaofapnhhaa
