/-
  MARTIN: for any number the program tells the bits that come round: GrayRounds returns true for every number, and changes nothing.
-/
import Derived.Test.YtioaohcnlgbnnaaOpen
import Derived.Test.YtioaohcnlgbnnaaRr
import Derived.ProofKit
namespace Go.Proofs.Ytioaohcnlgbnnaa
open Go.ChangeShapes Go.WideShapes Go.ChangeAt Go.RowKit Go.Deep
set_option linter.unusedVariables false

theorem rl_len {n : Nat} : (rl n).length = 2 ^ n := by
  have : n < 2 ^ n := Nat.lt_two_pow_self
  show (rs n (2 ^ n - n)).2.2.length = _
  rw [rs_len]
  omega

set_option maxRecDepth 100000 in
theorem grayRounds_bad (n : Int) (h : ¬ (1 ≤ n ∧ n ≤ 6)) (w : World) : Calls Try.prog 5 #[.int .i64 n] w fun e w' => e = .returned (.bool true) ∧ Ext w w' := by
  have c1 := Round_out n h w
  rcases Int.lt_or_le n 1 with h0 | h0
  · clear h
    go_enter Try.func5, Try.ntmps5
    go_wp2_with fail
    refine c1.mono ?_
    rintro e w1 ⟨rfl, rfl⟩
    clear c1
    go_wp2
    go_ret
    exact ⟨rfl, Ext.refl _⟩
  · have h1 : 6 < n := by omega
    clear h
    go_enter Try.func5, Try.ntmps5
    go_wp2_with fail
    refine c1.mono ?_
    rintro e w1 ⟨rfl, rfl⟩
    clear c1
    go_wp2
    go_ret
    exact ⟨rfl, Ext.refl _⟩

set_option maxRecDepth 100000 in
theorem grayRounds_good (n : Nat) (hn1 : 1 ≤ n) (hn6 : n ≤ 6) (w : World) : Calls Try.prog 5 #[.int .i64 n] w fun e w' => e = .returned (.bool true) ∧ Ext w w' := by
  have c1 := Round_any n hn1 hn6 w
  have C2 : Hid (∀ W, Calls Try.prog 14 #[.int .i64 n] W fun e w' => ∃ y : Wd, e = .returned y.v ∧ y.l = rl n ∧ Bits w' y ∧ Ext W w') := fun W => by
    refine (refRound_any n hn1 hn6 W).mono ?_
    rintro e w' ⟨v, rfl, O⟩
    obtain ⟨y, rfl, hy, hb⟩ := O.bits
    exact ⟨y, rfl, by rw [hy, rl_fr hn1 hn6], hb, O.1⟩
  have hM64 : 2 ^ n ≤ 2 ^ 6 := Nat.pow_le_pow_right (by omega) hn6
  have C3 : Hid (∀ A W (y : Wd), RB W A (rl n) [] → Bits W y → y.l = rl n → Calls Try.prog 13 #[.slice (some ⟨A, 0, none⟩) (2 ^ n) (2 ^ n), y.v] W fun e w' => e = .returned (.bool true) ∧ Qt W w') := fun A W y hr hb hy => by
    have := bools_any ⟨some ⟨A, 0, none⟩, 2 ^ n, rl n⟩ y W (hr.bits (by rw [rl_len]; rfl) (by unfold maxLen; omega)) hb
    simp only [Wd.v, rl_len] at this
    rw [hy, beq_self_eq_true] at this
    simp only [Wd.v, hy]
    exact this
  have h0 : ¬ (n : Int) < 1 := by omega
  have h6 : ¬ (6 : Int) < (n : Int) := by omega
  generalize rl n = R at *
  generalize 2 ^ n = M at *
  go_enter Try.func5, Try.ntmps5
  go_wp2_with fail
  refine c1.mono ?_
  rintro e w1 ⟨A, rfl, R1, hA, E1⟩
  have R1' : Hid (RB w1 A R []) := R1
  have E1' : Hid (Ext w w1) := E1
  have c2 := C2.out w1
  clear c1 C2 R1 hA E1
  go_wp2_with fail
  refine c2.mono ?_
  rintro e w2 ⟨y, rfl, hy, hb, E2⟩
  have c3 := C3.out A w2 y (Row.ext R1'.out E2) hb hy
  have E2' : Hid (Ext w w2) := E1'.out.trans E2
  clear c2 C3 R1' E1' hb E2 hy
  go_wp2_with fail
  refine c3.mono ?_
  rintro e w3 ⟨rfl, Q3⟩
  have E3 : Hid (Ext w w3) := E2'.out.trans Q3.ext
  clear c3 Q3 E2'
  go_wp2
  go_ret
  exact ⟨ret_bool (by simp), E3.out⟩

theorem grayRounds_walk (n : Int) (w : World) : Calls Try.prog 5 #[.int .i64 n] w fun e w' => e = .returned (.bool true) ∧ Ext w w' := by
  by_cases h : 1 ≤ n ∧ n ≤ 6
  · obtain ⟨m, rfl⟩ : ∃ m : Nat, n = m := ⟨n.toNat, by omega⟩
    exact grayRounds_good m (by omega) (by omega) w
  · exact grayRounds_bad n h w

set_option maxRecDepth 100000 in
theorem grayRounds_lifted (os : Os) (started : os.Started) (H : Type) (enc : TypeId × Value → H) :
    ReturnsInHanded {} Try.checked os 5 .any (Rows.grayRoundsSpec.pre6 enc Try.prog Try.f5 Rows.grayRoundsRow.domain false) (Rows.grayRoundsSpec.post enc Try.prog Try.f5 false true false false) := by
  refine returnsInHanded_of_change (C := Try.checked) own started (by kernel_rfl) Try.func5
    (ChangeSpec.witness6 (enc := enc) (C := Try.checked) false ⟨#[], #[.int .i64 0], []⟩ 8 (by kernel_rfl) (by kernel_rfl) (by kernel_rfl) (by kernel_rfl)) ?_
  intro W base args ds gs before hval0 hW _ _
  have hval : ∀ (j : Nat) t v, Try.f5.params[j]? = some t → args[j]? = some v → Value.okWide Try.prog W .any base t v := hval0
  have hW' := hW
  obtain ⟨p, q, hA0, hV, rfl, hfz, hnd⟩ := hW
  have hA : DataW.TrodAll enc Try.prog W 0 (fun _ => true) true Try.f5.params.toList args.toList ds p := hA0
  rw [Try.params5] at hA hval
  obtain ⟨v0, vs0, d0, ds0, p0, q0, hargs, rfl, rfl, h0, r0⟩ := trodAll_cons hA
  obtain ⟨rfl, rfl, rfl⟩ := trodAll_nil r0
  obtain rfl : args = #[v0] := by cases args; simp_all
  obtain ⟨rfl, rfl⟩ := trodVars_none hV
  have lt0 : ∀ x ∈ p0, x.block < W.heap.size := by obtain ⟨m, hm⟩ := h0; exact DataW.trod_lt m _ _ _ hm
  obtain ⟨x0, rfl, -, -, wf0⟩ := open_int Try.underlying3 (hval 0 3 v0 rfl rfl) h0
  clear hA0 hval0
  refine (grayRounds_walk x0 W).mono fun e W' ⟨he, bel⟩ => ?_
  subst he
  exact ⟨_, rfl, _, _, _, [], _, [], hW', trodAll_mk1 (shut_bool Try.underlying4 _), (trodAll_cons_mk (Below.trod laidOut (by kernel_rfl) (of_decide_eq_true (by kernel_rfl)) h0 bel lt0) trodAll_mk0), rfl, bel.frame _, fun h => by cases h⟩

theorem grayRounds_holds : Rows.GrayRoundsSaid :=
  OpenClaim.holds_of_wide 5 Try.f5 rfl rfl rfl rfl rfl rfl rfl ⟨rfl, rfl, rfl, rfl, rfl⟩ rfl rfl rfl rfl rfl (by kernel_rfl) Try.func5 (by kernel_rfl)
    (of_decide_eq_true (by kernel_rfl)) (by unfold Func.isWrapper; rw [if_neg (of_decide_eq_false (by kernel_rfl))]; exact ⟨rfl, rfl⟩)
    (fun os started H enc _ => grayRounds_lifted os started H enc)

#print axioms grayRounds_holds

end Go.Proofs.Ytioaohcnlgbnnaa
