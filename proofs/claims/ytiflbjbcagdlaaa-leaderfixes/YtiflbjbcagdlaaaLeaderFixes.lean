/-
  For any checks and any word the program tells it without its leader: LeaderFixes returns true for every number, every list of words and every word, and changes nothing.
-/
import Derived.Test.YtiflbjbcagdlaaaOpu
import Derived.Test.YtiflbjbcagdlaaaLh
namespace Go.Proofs.Ytiflbjbcagdlaaa
open Go.ChangeShapes Go.WideShapes Go.ChangeAt Go.RowKit Go.Deep
set_option linter.unusedVariables false

theorem leaderFixes_bad (n : Int) (x : Um) (hb : ∀ y ∈ x.z, y < 4294967296) (q : Nat) (hq : q < 4294967296) (w : World) (hx : Us w x) (h : we n x.z q n.toNat ≠ 0) :
    Calls Try.prog 5 #[.int .i64 n, x.v, .int .u32 (q : Nat)] w fun e w' => e = .returned (.bool true) ∧ Ext w w' := by
  have c1 := fix_any n x hb q hq w hx
  have c2 : Hid (∀ W, Ext w W → Calls Try.prog 9 #[.int .i64 n, x.v, .int .u32 (q : Nat), .int .i64 n] W fun e w' => e = .returned (.int .i64 (we n x.z q (n.toNat))) ∧ w' = W) := fun W E =>
    checked_any n x hb q hq (n.toNat) (by intro h; obtain ⟨m, rfl, h1, h2, h3⟩ := re_zero h; omega) W (hx.ext E) n (by intro h; obtain ⟨m, rfl, h1, h2, h3⟩ := re_zero h; omega)
  have hz : (we n x.z q (n.toNat) != 0) = true := by rw [bne_iff_ne]; exact h
  have e1 : fxv n x.z q = 0 := if_neg h
  rw [e1] at c1
  clear e1
  clear h hb hx
  generalize we n x.z q (n.toNat) = R at *
  obtain ⟨a, c, g⟩ := x
  simp only [Um.v] at *
  generalize g.length = gl at *
  go_enter Try.func5, Try.ntmps5
  go_wp2_with fail
  refine c1.mono ?_
  rintro e w1 ⟨rfl, E1⟩
  have X1 : Hid (Ext w w1) := E1
  have c2' := c2.out w1 E1
  clear c1 c2 E1
  go_wp2_with fail
  refine c2'.mono ?_
  rintro e w2 ⟨rfl, rfl⟩
  clear c2'
  go_wp2
  go_ret
  exact ⟨ret_bool (by simp), X1.out⟩

theorem leaderFixes_good (n : Int) (x : Um) (hb : ∀ y ∈ x.z, y < 4294967296) (q : Nat) (hq : q < 4294967296) (w : World) (hx : Us w x) (h : we n x.z q (n.toNat) = 0) :
    Calls Try.prog 5 #[.int .i64 n, x.v, .int .u32 (q : Nat)] w fun e w' => e = .returned (.bool true) ∧ Ext w w' := by
  have c1 := fix_any n x hb q hq w hx
  obtain ⟨m, rfl, hm, h2, h3⟩ := re_zero (we_zero h)
  have hM : 2 ^ m ≤ 2 ^ 12 := Nat.pow_le_pow_right (by omega) hm
  have hqm := we_low h
  simp only [Int.toNat_natCast] at hqm
  have hmq : mk x.z q < 4294967296 := by
    have := mk_lt x.z q
    have : 2 ^ x.z.length ≤ 2 ^ 8 := Nat.pow_le_pow_right (by omega) h2
    omega
  have c2 : Hid (∀ W, Ext w W → Calls Try.prog 9 #[.int .i64 (m : Int), x.v, .int .u32 (q : Nat), .int .i64 (m : Int)] W fun e w' => e = .returned (.int .i64 (we m x.z q (m : Int).toNat)) ∧ w' = W) := fun W E =>
    checked_any m x hb q hq _ (by intro _; omega) W (hx.ext E) m (by intro _; omega)
  have c3 : Hid (∀ W, Ext w W → Calls Try.prog 10 #[x.v, .int .u32 (q : Nat)] W fun e w' => e = .returned (.int .u32 (mk x.z q : Nat)) ∧ w' = W) := fun W E => refMark_any x q h2 hb hq W (hx.ext E)
  have c4 : Hid (∀ W, Ext w W → Calls Try.prog 12 #[.int .i64 (m : Int), x.v, .int .u32 (mk x.z q : Nat)] W fun e w' => e = .returned (.tuple #[.int .u32 ((ldr m x.z (mk x.z q)).getD 0 : Nat), .bool (ldr m x.z (mk x.z q)).isSome]) ∧ w' = W) := fun W E => refLeader_any m hm x h2 h3 (mk x.z q) hmq W (hx.ext E)
  obtain ⟨l, hl⟩ := bst_has (f := mk x.z) hqm
  have hll := (bst_some hl).lt
  have ex := u32_xor_nat q l hq (by omega)
  have el : ldr m x.z (mk x.z q) = some l := hl
  have ev : fxv m x.z q = q ^^^ l := by
    unfold fxv
    rw [if_pos h, Int.toNat_natCast, el]
    rfl
  rw [ev] at c1
  rw [el] at c4
  simp only [Option.getD_some, Option.isSome_some] at c4
  rw [h] at c1 c2
  clear h hb hx h2 h3 el ev hl
  generalize mk x.z q = R at *
  generalize q ^^^ l = Y at *
  obtain ⟨a, c, g⟩ := x
  simp only [Um.v] at *
  generalize g.length = gl at *
  go_enter Try.func5, Try.ntmps5
  go_wp2_with fail
  refine c1.mono ?_
  rintro e w1 ⟨rfl, E1⟩
  have X1 : Hid (Ext w w1) := E1
  have c2' := c2.out w1 E1
  have c3' := c3.out w1 E1
  have c4' := c4.out w1 E1
  clear c1 c2 c3 c4 E1
  go_wp2_with fail
  refine c2'.mono ?_
  rintro e w2 ⟨rfl, rfl⟩
  clear c2'
  go_wp2_with fail
  refine c3'.mono ?_
  rintro e w3 ⟨rfl, rfl⟩
  clear c3'
  go_wp2_with fail
  refine c4'.mono ?_
  rintro e w4 ⟨rfl, rfl⟩
  clear c4'
  go_wp2
  go_ret
  exact ⟨ret_bool (by simp), X1.out⟩

theorem leaderFixes_walk (n : Int) (x : Um) (hb : ∀ y ∈ x.z, y < 4294967296) (q : Int) (hw : (Lit.int .u32 q).wf = true) (w : World) (hx : Us w x) :
    Calls Try.prog 5 #[.int .i64 n, x.v, .int .u32 q] w fun e w' => e = .returned (.bool true) ∧ Ext w w' := by
  have hq' : 0 ≤ q ∧ q < 4294967296 := u32_in hw
  obtain ⟨m, rfl⟩ : ∃ m : Nat, q = m := ⟨q.toNat, by omega⟩
  by_cases h : we n x.z m (n.toNat) = 0
  · exact leaderFixes_good n x hb m (by omega) w hx h
  · exact leaderFixes_bad n x hb m (by omega) w hx h

set_option maxRecDepth 100000 in
theorem leaderFixes_lifted (os : Os) (started : os.Started) (H : Type) (enc : TypeId × Value → H) :
    ReturnsInHanded {} Try.checked os 5 .any (Rows.leaderFixesSpec.pre6 enc Try.prog Try.f5 Rows.leaderFixesRow.domain false) (Rows.leaderFixesSpec.post enc Try.prog Try.f5 false true false false) := by
  refine returnsInHanded_of_change (C := Try.checked) own started (by kernel_rfl) Try.func5
    (ChangeSpec.witness6 (enc := enc) (C := Try.checked) false ⟨#[], #[.int .i64 0, .slice none 0 0, .int .u32 0], []⟩ 8 (by kernel_rfl) (by kernel_rfl) (by kernel_rfl) (by kernel_rfl)) ?_
  intro W base args ds gs before hval0 hW _ _
  have hval : ∀ (j : Nat) t v, Try.f5.params[j]? = some t → args[j]? = some v → Value.okWide Try.prog W .any base t v := hval0
  have hW' := hW
  obtain ⟨p, q, hA0, hV, rfl, hfz, hnd⟩ := hW
  have hA : DataW.TrodAll enc Try.prog W 0 (fun _ => true) true Try.f5.params.toList args.toList ds p := hA0
  rw [Try.params5] at hA hval
  obtain ⟨v0, vs0, d0, ds0, p0, q0, hargs, rfl, rfl, h0, r0⟩ := trodAll_cons hA
  obtain ⟨v1, vs1, d1, ds1, p1, q1, rfl, rfl, rfl, h1, r1⟩ := trodAll_cons r0
  obtain ⟨v2, vs2, d2, ds2, p2, q2, rfl, rfl, rfl, h2, r2⟩ := trodAll_cons r1
  obtain ⟨rfl, rfl, rfl⟩ := trodAll_nil r2
  obtain rfl : args = #[v0, v1, v2] := by cases args; simp_all
  obtain ⟨rfl, rfl⟩ := trodVars_none hV
  have lt0 : ∀ x ∈ p0, x.block < W.heap.size := by obtain ⟨m, hm⟩ := h0; exact DataW.trod_lt m _ _ _ hm
  obtain ⟨x0, rfl, -, -, wf0⟩ := open_int Try.underlying3 (hval 0 3 v0 rfl rfl) h0
  have lt1 : ∀ x ∈ p1, x.block < W.heap.size := by obtain ⟨m, hm⟩ := h1; exact DataW.trod_lt m _ _ _ hm
  obtain ⟨x1, rfl, w1, b1⟩ := open_us (hval 1 22 v1 rfl rfl) h1
  have lt2 : ∀ x ∈ p2, x.block < W.heap.size := by obtain ⟨m, hm⟩ := h2; exact DataW.trod_lt m _ _ _ hm
  obtain ⟨x2, rfl, -, -, wf2⟩ := open_int Try.underlying23 (hval 2 23 v2 rfl rfl) h2
  clear hA0 hval0
  refine (leaderFixes_walk x0 x1 b1 x2 wf2 W w1).mono fun e W' ⟨he, bel⟩ => ?_
  subst he
  exact ⟨_, rfl, _, _, _, [], _, [], hW', trodAll_mk1 (shut_bool Try.underlying4 _), (trodAll_cons_mk (Below.trod laidOut (by kernel_rfl) (of_decide_eq_true (by kernel_rfl)) h0 bel lt0) (trodAll_cons_mk (Below.trod laidOut (by kernel_rfl) (of_decide_eq_true (by kernel_rfl)) h1 bel lt1) (trodAll_cons_mk (Below.trod laidOut (by kernel_rfl) (of_decide_eq_true (by kernel_rfl)) h2 bel lt2) trodAll_mk0))), rfl, bel.frame _, fun h => by cases h⟩

theorem leaderFixes_holds : Rows.LeaderFixesSaid :=
  OpenClaim.holds_of_wide 5 Try.f5 rfl rfl rfl rfl rfl rfl rfl ⟨rfl, rfl, rfl, rfl, rfl⟩ rfl rfl rfl rfl rfl (by kernel_rfl) Try.func5 (by kernel_rfl)
    (of_decide_eq_true (by kernel_rfl)) (by unfold Func.isWrapper; rw [if_neg (of_decide_eq_false (by kernel_rfl))]; exact ⟨rfl, rfl⟩)
    (fun os started H enc _ => leaderFixes_lifted os started H enc)

#print axioms leaderFixes_holds

end Go.Proofs.Ytiflbjbcagdlaaa
