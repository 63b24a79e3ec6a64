/-
  For any rows the program tells all their sums: SpanTells returns true for every number and every list of words, and changes nothing.
-/
import Derived.Test.YtdfjjjcaibadoaaOpu
import Derived.Test.YtdfjjjcaibadoaaFa
import Derived.Test.YtdfjjjcaibadoaaRs
import Derived.Test.YtdfjjjcaibadoaaWo
namespace Go.Proofs.Ytdfjjjcaibadoaa
open Go.ChangeShapes Go.WideShapes Go.ChangeAt Go.RowKit Go.Deep
set_option linter.unusedVariables false

theorem spanTells_bad (n : Int) (x : Um) (hb : ∀ y ∈ x.z, y < 4294967296) (h : re n x.z ≠ 0) (w : World) (hx : Us w x) :
    Calls Try.prog 3 #[.int .i64 n, x.v] w fun e w' => e = .returned (.bool true) ∧ Ext w w' := by
  have c1 := span_bad n x hb h w hx
  have c2 : Hid (∀ W, Ext w W → Calls Try.prog 9 #[.int .i64 n, x.v] W fun e w' => e = .returned (.int .i64 (re n x.z)) ∧ w' = W) := fun W E => refRows_any n x hb W (hx.ext E)
  have hz : (re n x.z != 0) = true := by rw [bne_iff_ne]; exact h
  clear h hb hx
  generalize re n x.z = R at *
  obtain ⟨a, c, g⟩ := x
  simp only [Um.v] at *
  generalize g.length = m at *
  go_enter Try.func3, Try.ntmps3
  go_wp2_with fail
  refine c1.mono ?_
  rintro e w1 ⟨rfl, E1⟩
  have X1 : Aside (Ext w w1) := E1
  have c2' := c2.out w1 E1
  clear c1 c2 E1
  go_wp2_with fail
  refine c2'.mono ?_
  rintro e w2 ⟨rfl, rfl⟩
  clear c2'
  go_wp2
  go_ret
  exact ⟨ret_bool (by simp), X1.out⟩

theorem spanTells_good (n : Nat) (hn : n ≤ 12) (x : Um) (hl : x.z.length ≤ 8) (hb : ∀ y ∈ x.z, y < 2 ^ n) (w : World) (hx : Us w x) :
    Calls Try.prog 3 #[.int .i64 n, x.v] w fun e w' => e = .returned (.bool true) ∧ Ext w w' := by
  have c1 := span_good n hn x hl hb w hx
  have c2 : Hid (∀ W, Ext w W → Calls Try.prog 9 #[.int .i64 n, x.v] W fun e w' => e = .returned (.int .i64 0) ∧ w' = W) := fun W E => by
    have := refRows_any n x (rows_32 hn hb) W (hx.ext E)
    rw [re_good hn hl hb] at this
    exact this
  have c3 : Hid (∀ W, Ext w W → Calls Try.prog 11 #[.int .i64 n, x.v] W fun e w' => Hid (∃ v, e = .returned v ∧ OwnU W w' v (spn n x.z))) := fun W E => refSpan_any n hn x hl hb W (hx.ext E)
  clear hb hx
  generalize spn n x.z = L at *
  obtain ⟨a, c, g⟩ := x
  simp only [Um.v] at *
  generalize g.length = m at *
  go_enter Try.func3, Try.ntmps3
  go_wp2_with fail
  refine c1.mono ?_
  intro e w1 h1
  obtain ⟨v, rfl, O1⟩ := h1.out
  obtain ⟨y, rfl, hz, hus⟩ := O1.us
  have X1 : Aside (Ext w w1) := O1.1
  have U1 : Hid (Us w1 y ∧ y.z = L) := ⟨hus, hz⟩
  have c2' := c2.out w1 O1.1
  clear c1 c2 h1 O1 hz hus
  go_wp2_with fail
  refine c2'.mono ?_
  rintro e w2 ⟨rfl, rfl⟩
  have c3' := c3.out w2 X1.out
  clear c2' c3
  go_wp2_with fail
  refine c3'.mono ?_
  intro e w3 h3
  obtain ⟨v3, rfl, O3⟩ := h3.out
  obtain ⟨y3, rfl, hz3, hus3⟩ := O3.us
  have X3 : Aside (Ext w w3) := X1.out.trans O3.1
  have c4 := words_any y y3 w3 (U1.out.1.ext O3.1) hus3
  rw [U1.out.2, hz3, beq_self_eq_true] at c4
  clear c3' h3 O3 hus3 X1 U1
  obtain ⟨ay, cy, gy⟩ := y
  obtain ⟨az, cz, gz⟩ := y3
  simp only [Um.v] at *
  generalize gy.length = my at *
  generalize gz.length = mz at *
  go_wp2_with fail
  refine c4.mono ?_
  rintro e w4 ⟨rfl, q4⟩
  clear c4
  go_wp2
  go_ret
  exact ⟨ret_bool (by simp), X3.out.trans q4.ext⟩

theorem spanTells_walk (n : Int) (x : Um) (hb : ∀ y ∈ x.z, y < 4294967296) (w : World) (hx : Us w x) :
    Calls Try.prog 3 #[.int .i64 n, x.v] w fun e w' => e = .returned (.bool true) ∧ Ext w w' := by
  by_cases h : re n x.z = 0
  · obtain ⟨m, rfl, h1, h2, h3⟩ := re_zero h
    exact spanTells_good m h1 x h2 h3 w hx
  · exact spanTells_bad n x hb h w hx

set_option maxRecDepth 100000 in
theorem spanTells_lifted (os : Os) (started : os.Started) (H : Type) (enc : TypeId × Value → H) :
    ReturnsInHanded {} Try.checked os 3 .any (Rows.spanTellsSpec.pre6 enc Try.prog Try.f3 Rows.spanTellsRow.domain false) (Rows.spanTellsSpec.post enc Try.prog Try.f3 false true false false) := by
  refine returnsInHanded_of_change (C := Try.checked) own started (by kernel_rfl) Try.func3
    (ChangeSpec.witness6 (enc := enc) (C := Try.checked) false ⟨#[], #[.int .i64 0, .slice none 0 0], []⟩ 8 (by kernel_rfl) (by kernel_rfl) (by kernel_rfl) (by kernel_rfl)) ?_
  intro W base args ds gs before hval0 hW _ _
  have hval : ∀ (j : Nat) t v, Try.f3.params[j]? = some t → args[j]? = some v → Value.okWide Try.prog W .any base t v := hval0
  have hW' := hW
  obtain ⟨p, q, hA0, hV, rfl, hfz, hnd⟩ := hW
  have hA : DataW.TrodAll enc Try.prog W 0 (fun _ => true) true Try.f3.params.toList args.toList ds p := hA0
  rw [Try.params3] at hA hval
  obtain ⟨v0, vs0, d0, ds0, p0, q0, hargs, rfl, rfl, h0, r0⟩ := trodAll_cons hA
  obtain ⟨v1, vs1, d1, ds1, p1, q1, rfl, rfl, rfl, h1, r1⟩ := trodAll_cons r0
  obtain ⟨rfl, rfl, rfl⟩ := trodAll_nil r1
  obtain rfl : args = #[v0, v1] := by cases args; simp_all
  obtain ⟨rfl, rfl⟩ := trodVars_none hV
  have lt0 : ∀ x ∈ p0, x.block < W.heap.size := by obtain ⟨m, hm⟩ := h0; exact DataW.trod_lt m _ _ _ hm
  obtain ⟨x0, rfl, -, -, wf0⟩ := open_int Try.underlying3 (hval 0 3 v0 rfl rfl) h0
  have lt1 : ∀ x ∈ p1, x.block < W.heap.size := by obtain ⟨m, hm⟩ := h1; exact DataW.trod_lt m _ _ _ hm
  obtain ⟨x1, rfl, w1, b1⟩ := open_us (hval 1 22 v1 rfl rfl) h1
  clear hA0 hval0
  refine (spanTells_walk x0 x1 b1 W w1).mono fun e W' ⟨he, bel⟩ => ?_
  subst he
  exact ⟨_, rfl, _, _, _, [], _, [], hW', trodAll_mk1 (shut_bool Try.underlying4 _), (trodAll_cons_mk (Below.trod laidOut (by kernel_rfl) (of_decide_eq_true (by kernel_rfl)) h0 bel lt0) (trodAll_cons_mk (Below.trod laidOut (by kernel_rfl) (of_decide_eq_true (by kernel_rfl)) h1 bel lt1) trodAll_mk0)), rfl, bel.frame _, fun h => by cases h⟩

theorem spanTells_holds : Rows.SpanTellsSaid :=
  OpenClaim.holds_of_wide 3 Try.f3 rfl rfl rfl rfl rfl rfl rfl ⟨rfl, rfl, rfl, rfl, rfl⟩ rfl rfl rfl rfl rfl (by kernel_rfl) Try.func3 (by kernel_rfl)
    (of_decide_eq_true (by kernel_rfl)) (by unfold Func.isWrapper; rw [if_neg (of_decide_eq_false (by kernel_rfl))]; exact ⟨rfl, rfl⟩)
    (fun os started H enc _ => spanTells_lifted os started H enc)

#print axioms spanTells_holds

end Go.Proofs.Ytdfjjjcaibadoaa
