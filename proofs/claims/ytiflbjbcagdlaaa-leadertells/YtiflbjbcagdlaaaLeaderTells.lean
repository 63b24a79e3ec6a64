/-
  For any checks and any mark the program tells the word with the fewest bits that has it, or that there is none: LeaderTells returns true for every number, every list of words and every word, and changes nothing.
-/
import Derived.Test.YtiflbjbcagdlaaaOpu
import Derived.Test.YtiflbjbcagdlaaaLh
namespace Go.Proofs.Ytiflbjbcagdlaaa
open Go.ChangeShapes Go.WideShapes Go.ChangeAt Go.RowKit Go.Deep
set_option linter.unusedVariables false

theorem leaderTells_bad (n : Int) (x : Um) (hb : ∀ y ∈ x.z, y < 4294967296) (q : Nat) (hq : q < 4294967296) (w : World) (hx : Us w x) (h : we n x.z q x.z.length ≠ 0) :
    Calls Try.prog 4 #[.int .i64 n, x.v, .int .u32 (q : Nat)] w fun e w' => e = .returned (.bool true) ∧ Ext w w' := by
  have c1 := leader_any n x hb q hq w hx
  have c2 : Hid (∀ W, Ext w W → Calls Try.prog 9 #[.int .i64 n, x.v, .int .u32 (q : Nat), .int .i64 (x.z.length : Int)] W fun e w' => e = .returned (.int .i64 (we n x.z q (x.z.length))) ∧ w' = W) := fun W E =>
    checked_any n x hb q hq (x.z.length) (by intro h; obtain ⟨m, rfl, h1, h2, h3⟩ := re_zero h; omega) W (hx.ext E) (x.z.length : Int) (by intro h; obtain ⟨m, rfl, h1, h2, h3⟩ := re_zero h; omega)
  have hz : (we n x.z q (x.z.length) != 0) = true := by rw [bne_iff_ne]; exact h
  have e1 : ldv n x.z q = 0 := if_neg h
  have e2 : lde n x.z q = we n x.z q x.z.length := if_neg h
  rw [e1, e2] at c1
  clear e1 e2
  have hml := Nat.le_trans hx.1 hx.2.1
  unfold maxLen at hml
  clear h hb hx
  generalize we n x.z q (x.z.length) = R at *
  obtain ⟨a, c, g⟩ := x
  simp only [Um.v] at *
  generalize g.length = gl at *
  go_enter Try.func4, Try.ntmps4
  go_wp2_with fail
  refine c1.mono ?_
  rintro e w1 ⟨rfl, E1⟩
  have X1 : Hid (Ext w w1) := E1
  have c2' := c2.out w1 E1
  clear c1 c2 E1
  go_wp2_with fail
  refine c2'.mono ?_
  rintro e w2 ⟨rfl, rfl⟩
  clear c2'
  go_wp2
  go_ret
  exact ⟨ret_bool (by simp), X1.out⟩

theorem leaderTells_good (n : Int) (x : Um) (hb : ∀ y ∈ x.z, y < 4294967296) (q : Nat) (hq : q < 4294967296) (w : World) (hx : Us w x) (h : we n x.z q (x.z.length) = 0) :
    Calls Try.prog 4 #[.int .i64 n, x.v, .int .u32 (q : Nat)] w fun e w' => e = .returned (.bool true) ∧ Ext w w' := by
  have c1 := leader_any n x hb q hq w hx
  obtain ⟨m, rfl, hm, h2, h3⟩ := re_zero (we_zero h)
  have c2 : Hid (∀ W, Ext w W → Calls Try.prog 9 #[.int .i64 (m : Int), x.v, .int .u32 (q : Nat), .int .i64 (x.z.length : Int)] W fun e w' => e = .returned (.int .i64 (we m x.z q x.z.length)) ∧ w' = W) := fun W E =>
    checked_any m x hb q hq _ (by intro _; omega) W (hx.ext E) _ (by intro _; omega)
  have c3 : Hid (∀ W, Ext w W → Calls Try.prog 12 #[.int .i64 (m : Int), x.v, .int .u32 (q : Nat)] W fun e w' => e = .returned (.tuple #[.int .u32 ((ldr m x.z q).getD 0 : Nat), .bool (ldr m x.z q).isSome]) ∧ w' = W) := fun W E => refLeader_any m hm x h2 h3 q hq W (hx.ext E)
  have e1 : ldv m x.z q = (ldr m x.z q).getD 0 := if_pos h
  have e2 : lde m x.z q = if (ldr m x.z q).isSome then 0 else 5 := if_pos h
  rw [e1, e2] at c1
  rw [h] at c2
  clear h hb hx h3 e1 e2
  generalize ldr m x.z q = r at *
  obtain ⟨a, c, g⟩ := x
  simp only [Um.v] at *
  generalize g.length = gl at *
  cases r with
  | none =>
    go_enter Try.func4, Try.ntmps4
    go_wp2_with fail
    refine c1.mono ?_
    rintro e w1 ⟨rfl, E1⟩
    have X1 : Hid (Ext w w1) := E1
    have c2' := c2.out w1 E1
    have c3' := c3.out w1 E1
    clear c1 c2 c3 E1
    go_wp2_with fail
    refine c2'.mono ?_
    rintro e w2 ⟨rfl, rfl⟩
    clear c2'
    go_wp2_with fail
    refine c3'.mono ?_
    rintro e w3 ⟨rfl, rfl⟩
    clear c3'
    go_wp2
    go_ret
    exact ⟨ret_bool (by simp), X1.out⟩
  | some l =>
    simp only [Option.getD_some, Option.isSome_some] at c1 c3
    go_enter Try.func4, Try.ntmps4
    go_wp2_with fail
    refine c1.mono ?_
    rintro e w1 ⟨rfl, E1⟩
    have X1 : Hid (Ext w w1) := E1
    have c2' := c2.out w1 E1
    have c3' := c3.out w1 E1
    clear c1 c2 c3 E1
    go_wp2_with fail
    refine c2'.mono ?_
    rintro e w2 ⟨rfl, rfl⟩
    clear c2'
    go_wp2_with fail
    refine c3'.mono ?_
    rintro e w3 ⟨rfl, rfl⟩
    clear c3'
    go_wp2
    go_ret
    exact ⟨ret_bool (by simp), X1.out⟩

theorem leaderTells_walk (n : Int) (x : Um) (hb : ∀ y ∈ x.z, y < 4294967296) (q : Int) (hw : (Lit.int .u32 q).wf = true) (w : World) (hx : Us w x) :
    Calls Try.prog 4 #[.int .i64 n, x.v, .int .u32 q] w fun e w' => e = .returned (.bool true) ∧ Ext w w' := by
  have hq' : 0 ≤ q ∧ q < 4294967296 := u32_in hw
  obtain ⟨m, rfl⟩ : ∃ m : Nat, q = m := ⟨q.toNat, by omega⟩
  by_cases h : we n x.z m (x.z.length) = 0
  · exact leaderTells_good n x hb m (by omega) w hx h
  · exact leaderTells_bad n x hb m (by omega) w hx h

set_option maxRecDepth 100000 in
theorem leaderTells_lifted (os : Os) (started : os.Started) (H : Type) (enc : TypeId × Value → H) :
    ReturnsInHanded {} Try.checked os 4 .any (Rows.leaderTellsSpec.pre6 enc Try.prog Try.f4 Rows.leaderTellsRow.domain false) (Rows.leaderTellsSpec.post enc Try.prog Try.f4 false true false false) := by
  refine returnsInHanded_of_change (C := Try.checked) own started (by kernel_rfl) Try.func4
    (ChangeSpec.witness6 (enc := enc) (C := Try.checked) false ⟨#[], #[.int .i64 0, .slice none 0 0, .int .u32 0], []⟩ 8 (by kernel_rfl) (by kernel_rfl) (by kernel_rfl) (by kernel_rfl)) ?_
  intro W base args ds gs before hval0 hW _ _
  have hval : ∀ (j : Nat) t v, Try.f4.params[j]? = some t → args[j]? = some v → Value.okWide Try.prog W .any base t v := hval0
  have hW' := hW
  obtain ⟨p, q, hA0, hV, rfl, hfz, hnd⟩ := hW
  have hA : DataW.TrodAll enc Try.prog W 0 (fun _ => true) true Try.f4.params.toList args.toList ds p := hA0
  rw [Try.params4] at hA hval
  obtain ⟨v0, vs0, d0, ds0, p0, q0, hargs, rfl, rfl, h0, r0⟩ := trodAll_cons hA
  obtain ⟨v1, vs1, d1, ds1, p1, q1, rfl, rfl, rfl, h1, r1⟩ := trodAll_cons r0
  obtain ⟨v2, vs2, d2, ds2, p2, q2, rfl, rfl, rfl, h2, r2⟩ := trodAll_cons r1
  obtain ⟨rfl, rfl, rfl⟩ := trodAll_nil r2
  obtain rfl : args = #[v0, v1, v2] := by cases args; simp_all
  obtain ⟨rfl, rfl⟩ := trodVars_none hV
  have lt0 : ∀ x ∈ p0, x.block < W.heap.size := by obtain ⟨m, hm⟩ := h0; exact DataW.trod_lt m _ _ _ hm
  obtain ⟨x0, rfl, -, -, wf0⟩ := open_int Try.underlying3 (hval 0 3 v0 rfl rfl) h0
  have lt1 : ∀ x ∈ p1, x.block < W.heap.size := by obtain ⟨m, hm⟩ := h1; exact DataW.trod_lt m _ _ _ hm
  obtain ⟨x1, rfl, w1, b1⟩ := open_us (hval 1 22 v1 rfl rfl) h1
  have lt2 : ∀ x ∈ p2, x.block < W.heap.size := by obtain ⟨m, hm⟩ := h2; exact DataW.trod_lt m _ _ _ hm
  obtain ⟨x2, rfl, -, -, wf2⟩ := open_int Try.underlying23 (hval 2 23 v2 rfl rfl) h2
  clear hA0 hval0
  refine (leaderTells_walk x0 x1 b1 x2 wf2 W w1).mono fun e W' ⟨he, bel⟩ => ?_
  subst he
  exact ⟨_, rfl, _, _, _, [], _, [], hW', trodAll_mk1 (shut_bool Try.underlying4 _), (trodAll_cons_mk (Below.trod laidOut (by kernel_rfl) (of_decide_eq_true (by kernel_rfl)) h0 bel lt0) (trodAll_cons_mk (Below.trod laidOut (by kernel_rfl) (of_decide_eq_true (by kernel_rfl)) h1 bel lt1) (trodAll_cons_mk (Below.trod laidOut (by kernel_rfl) (of_decide_eq_true (by kernel_rfl)) h2 bel lt2) trodAll_mk0))), rfl, bel.frame _, fun h => by cases h⟩

theorem leaderTells_holds : Rows.LeaderTellsSaid :=
  OpenClaim.holds_of_wide 4 Try.f4 rfl rfl rfl rfl rfl rfl rfl ⟨rfl, rfl, rfl, rfl, rfl⟩ rfl rfl rfl rfl rfl (by kernel_rfl) Try.func4 (by kernel_rfl)
    (of_decide_eq_true (by kernel_rfl)) (by unfold Func.isWrapper; rw [if_neg (of_decide_eq_false (by kernel_rfl))]; exact ⟨rfl, rfl⟩)
    (fun os started H enc _ => leaderTells_lifted os started H enc)

#print axioms leaderTells_holds

end Go.Proofs.Ytiflbjbcagdlaaa
