/-
  For any checks and any word the program tells the word with the first bit turned that leaves the fewest bad checks, or that none makes them fewer: FlipSteps returns true for every number, every list of words and every word, and changes nothing.
-/
import Derived.Test.YtabjliijojidmaaOpu
import Derived.Test.YtabjliijojidmaaLw
namespace Go.Proofs.Ytabjliijojidmaa
open Go.ChangeShapes Go.WideShapes Go.ChangeAt Go.RowKit Go.Deep
set_option linter.unusedVariables false

theorem flipSteps_bad (n : Int) (x : Um) (hb : ∀ y ∈ x.z, y < 4294967296) (q : Nat) (hq : q < 4294967296) (w : World) (hx : Us w x) (h : we n x.z q n.toNat ≠ 0) :
    Calls Try.prog 4 #[.int .i64 n, x.v, .int .u32 (q : Nat)] w fun e w' => e = .returned (.bool true) ∧ Ext w w' := by
  have c1 := fStep_bad n x hb q hq w hx h
  have c2 : Hid (∀ W, Ext w W → Calls Try.prog 9 #[.int .i64 n, x.v, .int .u32 (q : Nat), .int .i64 n] W fun e w' => e = .returned (.int .i64 (we n x.z q n.toNat)) ∧ w' = W) := fun W E => chk_bad n x hb q hq W (hx.ext E)
  have hz : (we n x.z q n.toNat != 0) = true := by rw [bne_iff_ne]; exact h
  clear h hb hx
  generalize we n x.z q n.toNat = R at *
  obtain ⟨a, c, g⟩ := x
  simp only [Um.v] at *
  generalize g.length = gl at *
  go_enter Try.func4, Try.ntmps4
  go_wp2_with fail
  refine c1.mono ?_
  rintro e w1 ⟨rfl, E1⟩
  have X1 : Hid (Ext w w1) := E1
  have c2' := c2.out w1 E1
  clear c1 c2 E1
  go_wp2_with fail
  refine c2'.mono ?_
  rintro e w2 ⟨rfl, rfl⟩
  clear c2'
  go_wp2
  go_ret
  exact ⟨ret_bool (by simp), X1.out⟩

theorem flipSteps_good (n : Nat) (hn : n ≤ 12) (x : Um) (hl : x.z.length ≤ 8) (hb : ∀ y ∈ x.z, y < 2 ^ n) (q : Nat) (hq : q < 2 ^ n) (w : World) (hx : Us w x) :
    Calls Try.prog 4 #[.int .i64 (n : Int), x.v, .int .u32 (q : Nat)] w fun e w' => e = .returned (.bool true) ∧ Ext w w' := by
  have c1 := fStep_good n hn x hl hb q hq w hx
  have c2 : Hid (∀ W, Ext w W → Calls Try.prog 9 #[.int .i64 (n : Int), x.v, .int .u32 (q : Nat), .int .i64 (n : Int)] W fun e w' => e = .returned (.int .i64 0) ∧ w' = W) := fun W E => chk_good n hn x hl hb q hq W (hx.ext E)
  have c3 : Hid (∀ W, Ext w W → Calls Try.prog 12 #[.int .i64 (n : Int), x.v, .int .u32 (q : Nat)] W fun e w' => e = .returned (.tuple #[.int .u32 (fw x.z n q : Nat), .bool (fis x.z n q)]) ∧ w' = W) := fun W E => refFlip_any n hn x hl (rows_low hn hb) q hq W (hx.ext E)
  clear hb hx
  generalize fw x.z n q = R at *
  generalize fis x.z n q = S at *
  obtain ⟨a, c, g⟩ := x
  simp only [Um.v] at *
  generalize g.length = gl at *
  go_enter Try.func4, Try.ntmps4
  go_wp2_with fail
  refine c1.mono ?_
  rintro e w1 ⟨rfl, E1⟩
  have X1 : Hid (Ext w w1) := E1
  have c2' := c2.out w1 E1
  have c3' := c3.out w1 E1
  clear c1 c2 c3 E1
  go_wp2_with fail
  refine c2'.mono ?_
  rintro e w2 ⟨rfl, rfl⟩
  clear c2'
  go_wp2_with fail
  refine c3'.mono ?_
  rintro e w3 ⟨rfl, rfl⟩
  clear c3'
  go_wp2
  go_ret
  exact ⟨ret_bool (by simp), X1.out⟩

theorem flipSteps_walk (n : Int) (x : Um) (hb : ∀ y ∈ x.z, y < 4294967296) (q : Int) (hw : (Lit.int .u32 q).wf = true) (w : World) (hx : Us w x) :
    Calls Try.prog 4 #[.int .i64 n, x.v, .int .u32 q] w fun e w' => e = .returned (.bool true) ∧ Ext w w' := by
  have hq' : 0 ≤ q ∧ q < 4294967296 := u32_in hw
  obtain ⟨m, rfl⟩ : ∃ m : Nat, q = m := ⟨q.toNat, by omega⟩
  by_cases h : we n x.z m n.toNat = 0
  · obtain ⟨s, rfl, h1, h2, h3, h4⟩ := we_is h
    exact flipSteps_good s h1 x h2 h3 m h4 w hx
  · exact flipSteps_bad n x hb m (by omega) w hx h

set_option maxRecDepth 100000 in
theorem flipSteps_lifted (os : Os) (started : os.Started) (H : Type) (enc : TypeId × Value → H) :
    ReturnsInHanded {} Try.checked os 4 .any (Rows.flipStepsSpec.pre6 enc Try.prog Try.f4 Rows.flipStepsRow.domain false) (Rows.flipStepsSpec.post enc Try.prog Try.f4 false true false false) := by
  refine returnsInHanded_of_change (C := Try.checked) own started (by kernel_rfl) Try.func4
    (ChangeSpec.witness6 (enc := enc) (C := Try.checked) false ⟨#[], #[.int .i64 0, .slice none 0 0, .int .u32 0], []⟩ 8 (by kernel_rfl) (by kernel_rfl) (by kernel_rfl) (by kernel_rfl)) ?_
  intro W base args ds gs before hval0 hW _ _
  have hval : ∀ (j : Nat) t v, Try.f4.params[j]? = some t → args[j]? = some v → Value.okWide Try.prog W .any base t v := hval0
  have hW' := hW
  obtain ⟨p, q, hA0, hV, rfl, hfz, hnd⟩ := hW
  have hA : DataW.TrodAll enc Try.prog W 0 (fun _ => true) true Try.f4.params.toList args.toList ds p := hA0
  rw [Try.params4] at hA hval
  obtain ⟨v0, vs0, d0, ds0, p0, q0, hargs, rfl, rfl, h0, r0⟩ := trodAll_cons hA
  obtain ⟨v1, vs1, d1, ds1, p1, q1, rfl, rfl, rfl, h1, r1⟩ := trodAll_cons r0
  obtain ⟨v2, vs2, d2, ds2, p2, q2, rfl, rfl, rfl, h2, r2⟩ := trodAll_cons r1
  obtain ⟨rfl, rfl, rfl⟩ := trodAll_nil r2
  obtain rfl : args = #[v0, v1, v2] := by cases args; simp_all
  obtain ⟨rfl, rfl⟩ := trodVars_none hV
  have lt0 : ∀ x ∈ p0, x.block < W.heap.size := by obtain ⟨m, hm⟩ := h0; exact DataW.trod_lt m _ _ _ hm
  obtain ⟨x0, rfl, -, -, wf0⟩ := open_int Try.underlying3 (hval 0 3 v0 rfl rfl) h0
  have lt1 : ∀ x ∈ p1, x.block < W.heap.size := by obtain ⟨m, hm⟩ := h1; exact DataW.trod_lt m _ _ _ hm
  obtain ⟨x1, rfl, w1, b1⟩ := open_us (hval 1 22 v1 rfl rfl) h1
  have lt2 : ∀ x ∈ p2, x.block < W.heap.size := by obtain ⟨m, hm⟩ := h2; exact DataW.trod_lt m _ _ _ hm
  obtain ⟨x2, rfl, -, -, wf2⟩ := open_int Try.underlying23 (hval 2 23 v2 rfl rfl) h2
  clear hA0 hval0
  refine (flipSteps_walk x0 x1 b1 x2 wf2 W w1).mono fun e W' ⟨he, bel⟩ => ?_
  subst he
  exact ⟨_, rfl, _, _, _, [], _, [], hW', trodAll_mk1 (shut_bool Try.underlying4 _), (trodAll_cons_mk (Below.trod laidOut (by kernel_rfl) (of_decide_eq_true (by kernel_rfl)) h0 bel lt0) (trodAll_cons_mk (Below.trod laidOut (by kernel_rfl) (of_decide_eq_true (by kernel_rfl)) h1 bel lt1) (trodAll_cons_mk (Below.trod laidOut (by kernel_rfl) (of_decide_eq_true (by kernel_rfl)) h2 bel lt2) trodAll_mk0))), rfl, bel.frame _, fun h => by cases h⟩

theorem flipSteps_holds : Rows.FlipStepsSaid :=
  OpenClaim.holds_of_wide 4 Try.f4 rfl rfl rfl rfl rfl rfl rfl ⟨rfl, rfl, rfl, rfl, rfl⟩ rfl rfl rfl rfl rfl (by kernel_rfl) Try.func4 (by kernel_rfl)
    (of_decide_eq_true (by kernel_rfl)) (by unfold Func.isWrapper; rw [if_neg (of_decide_eq_false (by kernel_rfl))]; exact ⟨rfl, rfl⟩)
    (fun os started H enc _ => flipSteps_lifted os started H enc)

#print axioms flipSteps_holds

end Go.Proofs.Ytabjliijojidmaa
