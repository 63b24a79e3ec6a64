/-
  GRAY: from each word to the next one, and from the last to the first, one bit is turned: GrayOne returns true for every number and every place, and changes nothing.
-/
import Derived.Test.YtioaohcnlgbnnaaOpen
import Derived.Test.YtioaohcnlgbnnaaCp
import Derived.Test.YtioaohcnlgbnnaaAf
import Derived.ProofKit
namespace Go.Proofs.Ytioaohcnlgbnnaa
open Go.ChangeShapes Go.WideShapes Go.ChangeAt Go.RowKit Go.Deep
set_option linter.unusedVariables false

set_option maxRecDepth 100000 in
theorem grayOne_bad (n : Int) (i : Nat) (hi : i < 4294967296) (h : ce n [i] ≠ 0) (w : World) :
    Calls Try.prog 6 #[.int .i64 n, .int .u32 i] w fun e w' => e = .returned (.bool true) ∧ Ext w w' := by
  have c1 := code_any n i hi w
  have c2 : Hid (∀ W : World, Calls Try.prog 15 #[.int .i64 n, .slice (some ⟨W.heap.size, 0, none⟩) 1 1] (W.alloc (.cells #[.int .u32 i] 22)) fun e w' => e = .returned (.bool false) ∧ w' = W.alloc (.cells #[.int .u32 i] 22)) := fun W => by
    have := below_ce n i hi W
    rw [decide_eq_false h] at this
    exact this
  rw [if_neg h] at c1
  generalize ce n [i] = c at *
  go_enter Try.func6, Try.ntmps6
  go_wp2_with fail
  refine c1.mono ?_
  rintro e w1 ⟨rfl, E1⟩
  have X1 : Hid (Ext w (w1.alloc (.cells #[.int .u32 i] 22))) := E1.alloc _
  have c3 := c2.out w1
  clear c1 c2 E1
  go_wp2_with fail
  refine c3.mono ?_
  rintro e w2 ⟨rfl, rfl⟩
  clear c3
  go_wp2
  go_ret
  exact ⟨ret_bool (by simp [h]), X1.out⟩

set_option maxRecDepth 100000 in
set_option maxHeartbeats 1000000 in
theorem grayOne_good (n i : Nat) (hn : n ≤ 12) (hi : i < 2 ^ n) (w : World) :
    Calls Try.prog 6 #[.int .i64 n, .int .u32 i] w fun e w' => e = .returned (.bool true) ∧ Ext w w' := by
  have hM : 2 ^ n ≤ 2 ^ 12 := Nat.pow_le_pow_right (by omega) hn
  have h0M := Nat.two_pow_pos n
  have hg := gr_lt hi
  have hj : (i + 1) % 2 ^ n < 2 ^ n := Nat.mod_lt _ h0M
  have hgj := gr_lt hj
  have good : ∀ q, q < 2 ^ n → ce (n : Int) [q] = 0 := fun q hq => ce_good hn (fun x hx => by rw [List.mem_singleton.1 hx]; exact hq)
  have CC : Hid (∀ (q : Nat) (W : World), q < 2 ^ n → Calls Try.prog 8 #[.int .i64 n, .int .u32 q] W fun e w' => e = .returned (.tuple #[.int .u32 (gr q : Nat), .int .i64 0]) ∧ Ext W w') := fun q W hq => by
    have := code_any n q (by omega) W
    rw [if_pos (good q hq), good q hq] at this
    exact this
  have CB : Hid (∀ (q : Nat) (W : World), q < 2 ^ n → Calls Try.prog 15 #[.int .i64 n, .slice (some ⟨W.heap.size, 0, none⟩) 1 1] (W.alloc (.cells #[.int .u32 q] 22)) fun e w' => e = .returned (.bool true) ∧ w' = W.alloc (.cells #[.int .u32 q] 22)) := fun q W hq => by
    have := below_ce n q (by omega) W
    rw [decide_eq_true (good q hq)] at this
    exact this
  have CP : Hid (∀ (W : World), Calls Try.prog 11 #[.int .i64 n, .int .u32 (gr i : Nat)] W fun e w' => e = .returned (.tuple #[.int .u32 (i : Nat), .int .i64 0]) ∧ Ext W w') := fun W => by
    have := place_any n (gr i) (by omega) W
    rw [if_pos (good _ hg), good _ hg, pl_of (by omega)] at this
    exact this
  have c1 := CC.out i w hi
  have CJ : Hid (∀ (W : World), Calls Try.prog 8 #[.int .i64 n, .int .u32 ((i + 1) % 2 ^ n : Nat)] W fun e w' => e = .returned (.tuple #[.int .u32 (gr ((i + 1) % 2 ^ n) : Nat), .int .i64 0]) ∧ Ext W w') := fun W => CC.out _ W hj
  have CI : Hid (∀ (W : World), Calls Try.prog 15 #[.int .i64 n, .slice (some ⟨W.heap.size, 0, none⟩) 1 1] (W.alloc (.cells #[.int .u32 i] 22)) fun e w' => e = .returned (.bool true) ∧ w' = W.alloc (.cells #[.int .u32 i] 22)) := fun W => CB.out i W hi
  have CG : Hid (∀ (W : World), Calls Try.prog 15 #[.int .i64 n, .slice (some ⟨W.heap.size, 0, none⟩) 1 1] (W.alloc (.cells #[.int .u32 (gr i : Nat)] 22)) fun e w' => e = .returned (.bool true) ∧ w' = W.alloc (.cells #[.int .u32 (gr i : Nat)] 22)) := fun W => CB.out _ W hg
  have CA : Hid (∀ (W : World), Calls Try.prog 16 #[.int .u32 (gr i : Nat), .int .u32 (gr ((i + 1) % 2 ^ n) : Nat)] W fun e w' => e = .returned (.int .i64 (far (gr i) (gr ((i + 1) % 2 ^ n)) : Nat)) ∧ w' = W) := fun W => refApart_any _ _ (by omega) (by omega) W
  have FA : Hid (0 < n → far (gr i) (gr ((i + 1) % 2 ^ n)) = 1) := fun h => gr_one h hn hi
  have rm : Int.tmod ((i : Int) + 1) ((2 ^ n : Nat) : Int) = ((i + 1) % 2 ^ n : Nat) := by
    rw [show (i : Int) + 1 = ((i + 1 : Nat) : Int) by omega, ← Int.ofNat_tmod]
  have pw : (2 : Int) ^ n % 4294967296 = ((2 ^ n : Nat) : Int) := pow_in n (by omega)
  clear CC CB good
  generalize far (gr i) (gr ((i + 1) % 2 ^ n)) = F at *
  generalize gr ((i + 1) % 2 ^ n) = z at *
  generalize (i + 1) % 2 ^ n = j at *
  generalize gr i = y at *
  generalize 2 ^ n = M at *
  go_enter Try.func6, Try.ntmps6
  go_wp2_with fail
  refine c1.mono ?_
  rintro e w1 ⟨rfl, E1⟩
  have X1 : Hid (Ext w (w1.alloc (.cells #[.int .u32 i] 22))) := E1.alloc _
  have c2 := CI.out w1
  clear c1 CI E1
  go_wp2_with fail
  refine c2.mono ?_
  rintro e w2 ⟨rfl, rfl⟩
  have c3 := CP.out (w1.alloc (.cells #[.int .u32 i] 22))
  clear c2 CP
  go_wp2_with fail
  refine c3.mono ?_
  rintro e w3 ⟨rfl, E3⟩
  have X3 : Hid (Ext w (w3.alloc (.cells #[.int .u32 y] 22))) := (X1.out.trans E3).alloc _
  have c4 := CG.out w3
  clear c3 CG X1 E3
  go_wp2_with fail
  refine c4.mono ?_
  rintro e w4 ⟨rfl, rfl⟩
  have c5 := CJ.out (w3.alloc (.cells #[.int .u32 y] 22))
  clear c4 CJ
  go_wp2_with fail
  refine c5.mono ?_
  rintro e w5 ⟨rfl, E5⟩
  have X5 : Hid (Ext w w5) := X3.out.trans E5
  clear c5 X3 E5
  have c6 := CA.out w5
  clear CA
  rcases Nat.eq_zero_or_pos n with h | h
  · subst h
    go_wp2
    go_ret
    exact ⟨ret_bool (by simp), X5.out⟩
  · rw [FA.out h] at c6
    have hnz : (n : Int) ≠ 0 := by omega
    go_wp2_with fail
    refine c6.mono ?_
    rintro e w6 ⟨rfl, rfl⟩
    clear c6
    go_wp2
    go_ret
    exact ⟨ret_bool (by simp), X5.out⟩

theorem grayOne_walk (n : Int) (i : Int) (hw : (Lit.int .u32 i).wf = true) (w : World) :
    Calls Try.prog 6 #[.int .i64 n, .int .u32 i] w fun e w' => e = .returned (.bool true) ∧ Ext w w' := by
  have hi : 0 ≤ i ∧ i < 4294967296 := u32_in hw
  obtain ⟨m, rfl⟩ : ∃ m : Nat, i = m := ⟨i.toNat, by omega⟩
  by_cases h : ce n [m] = 0
  · obtain ⟨k, rfl, hk, hg⟩ := ce_zero h
    exact grayOne_good k m hk (hg m (by simp)) w
  · exact grayOne_bad n m (by omega) h w

set_option maxRecDepth 100000 in
theorem grayOne_lifted (os : Os) (started : os.Started) (H : Type) (enc : TypeId × Value → H) :
    ReturnsInHanded {} Try.checked os 6 .any (Rows.grayOneSpec.pre6 enc Try.prog Try.f6 Rows.grayOneRow.domain false) (Rows.grayOneSpec.post enc Try.prog Try.f6 false true false false) := by
  refine returnsInHanded_of_change (C := Try.checked) own started (by kernel_rfl) Try.func6
    (ChangeSpec.witness6 (enc := enc) (C := Try.checked) false ⟨#[], #[.int .i64 0, .int .u32 0], []⟩ 8 (by kernel_rfl) (by kernel_rfl) (by kernel_rfl) (by kernel_rfl)) ?_
  intro W base args ds gs before hval0 hW _ _
  have hval : ∀ (j : Nat) t v, Try.f6.params[j]? = some t → args[j]? = some v → Value.okWide Try.prog W .any base t v := hval0
  have hW' := hW
  obtain ⟨p, q, hA0, hV, rfl, hfz, hnd⟩ := hW
  have hA : DataW.TrodAll enc Try.prog W 0 (fun _ => true) true Try.f6.params.toList args.toList ds p := hA0
  rw [Try.params6] at hA hval
  obtain ⟨v0, vs0, d0, ds0, p0, q0, hargs, rfl, rfl, h0, r0⟩ := trodAll_cons hA
  obtain ⟨v1, vs1, d1, ds1, p1, q1, rfl, rfl, rfl, h1, r1⟩ := trodAll_cons r0
  obtain ⟨rfl, rfl, rfl⟩ := trodAll_nil r1
  obtain rfl : args = #[v0, v1] := by cases args; simp_all
  obtain ⟨rfl, rfl⟩ := trodVars_none hV
  have lt0 : ∀ x ∈ p0, x.block < W.heap.size := by obtain ⟨m, hm⟩ := h0; exact DataW.trod_lt m _ _ _ hm
  obtain ⟨x0, rfl, -, -, wf0⟩ := open_int Try.underlying3 (hval 0 3 v0 rfl rfl) h0
  have lt1 : ∀ x ∈ p1, x.block < W.heap.size := by obtain ⟨m, hm⟩ := h1; exact DataW.trod_lt m _ _ _ hm
  obtain ⟨x1, rfl, -, -, wf1⟩ := open_int Try.underlying22 (hval 1 22 v1 rfl rfl) h1
  clear hA0 hval0
  refine (grayOne_walk x0 x1 wf1 W).mono fun e W' ⟨he, bel⟩ => ?_
  subst he
  exact ⟨_, rfl, _, _, _, [], _, [], hW', trodAll_mk1 (shut_bool Try.underlying4 _), (trodAll_cons_mk (Below.trod laidOut (by kernel_rfl) (of_decide_eq_true (by kernel_rfl)) h0 bel lt0) (trodAll_cons_mk (Below.trod laidOut (by kernel_rfl) (of_decide_eq_true (by kernel_rfl)) h1 bel lt1) trodAll_mk0)), rfl, bel.frame _, fun h => by cases h⟩

theorem grayOne_holds : Rows.GrayOneSaid :=
  OpenClaim.holds_of_wide 6 Try.f6 rfl rfl rfl rfl rfl rfl rfl ⟨rfl, rfl, rfl, rfl, rfl⟩ rfl rfl rfl rfl rfl (by kernel_rfl) Try.func6 (by kernel_rfl)
    (of_decide_eq_true (by kernel_rfl)) (by unfold Func.isWrapper; rw [if_neg (of_decide_eq_false (by kernel_rfl))]; exact ⟨rfl, rfl⟩)
    (fun os started H enc _ => grayOne_lifted os started H enc)

#print axioms grayOne_holds

end Go.Proofs.Ytioaohcnlgbnnaa
