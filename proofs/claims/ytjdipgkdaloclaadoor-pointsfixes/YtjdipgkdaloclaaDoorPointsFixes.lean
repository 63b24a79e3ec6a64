/-
  For any numbers, some of which may be wrong, the program tells the data, or that there are none: PointsFixes returns true for every number of data and every list of numbers, and changes nothing; on its way lies the table by which the least set bit is found, tied to the program's text.
-/
import Derived.Test.YtjdipgkdaloclaaDoorFd
import Derived.Test.YtjdipgkdaloclaaDoorFxb
import Derived.Test.YtjdipgkdaloclaaDoorWg
import Derived.Test.YtjdipgkdaloclaaDoorNum
import Derived.Test.YtjdipgkdaloclaaDoorLd
import Derived.Test.YtjdipgkdaloclaaDoorOpen
import Derived.Test.YtjdipgkdaloclaaDoorCards
import Derived.Test.YtjdipgkdaloclaaDoorTie
import Derived.ProofKit
namespace Go.Proofs.YtjdipgkdaloclaaDoor
open Go.ChangeShapes Go.WideShapes Go.ChangeAt Go.RowKit Go.Deep
set_option linter.unusedVariables false

set_option maxRecDepth 100000 in
theorem fixes_counts (k : Int) (y : Nm) (h0 : pc k y.z.length ≠ 0) (w : World) : Calls Tryd.prog 3 #[.int .i64 k, y.v] w fun e w' => e = .returned (.bool true) ∧ Ext w w' := by
  obtain ⟨X, hX⟩ : ∃ X, pc k y.z.length = X := ⟨_, rfl⟩
  have c1 := Fix_counts k y X hX (by rw [← hX]; exact h0) w
  have c2 : Hid (∀ W, Calls Tryd.prog 6 #[.int .i64 k, y.v] W fun e w' => e = .returned (.int .i64 X) ∧ w' = W) := fun W => by
    have := refCounts_any k y W
    rw [hX] at this
    exact this
  have hz : (X == 0) = false := beq_eq_false_iff_ne.2 (by rw [← hX]; exact h0)
  have hz2 : (X != 0) = true := bne_iff_ne.2 (by rw [← hX]; exact h0)
  clear h0 hX
  simp only [Nm.v] at *
  generalize y.z.length = n at *
  go_enter Tryd.func3, Tryd.ntmps3
  go_wp2_with fail
  refine c1.mono ?_
  rintro e w1 ⟨rfl, E1⟩
  have k2 := c2.out w1
  have E : Hid (Ext w w1) := E1
  clear c1 c2 E1
  go_wp2_with fail
  refine k2.mono ?_
  rintro e w' ⟨rfl, hh⟩
  have hh := hh.symm
  subst hh
  clear k2
  go_wp2
  go_ret
  exact ⟨rfl, E.out⟩

set_option maxRecDepth 100000 in
theorem fixes_range (k : Int) (y : Nm) (h0 : pc k y.z.length = 0) (hf : fe y.z ≠ 0) (w : World) (hy : Nums w y) : Calls Tryd.prog 3 #[.int .i64 k, y.v] w fun e w' => e = .returned (.bool true) ∧ Ext w w' := by
  have c1 := Fix_range k y h0 hf w hy
  have c2 : Hid (∀ W, Calls Tryd.prog 6 #[.int .i64 k, y.v] W fun e w' => e = .returned (.int .i64 0) ∧ w' = W) := fun W => by
    have := refCounts_any k y W
    rw [h0] at this
    exact this
  have c3 : Hid (∀ W, Ext w W → Calls Tryd.prog 7 #[y.v] W fun e w' => e = .returned (.int .i64 4) ∧ w' = W) := fun W E => by
    have := refCheck_any y W (hy.ext E)
    rw [show fe y.z = 4 by rcases fe_or y.z with h | h; exact absurd h hf; exact h] at this
    exact this
  clear h0 hf hy
  simp only [Nm.v] at *
  generalize y.z.length = n at *
  go_enter Tryd.func3, Tryd.ntmps3
  go_wp2_with fail
  refine c1.mono ?_
  rintro e w1 ⟨rfl, E1⟩
  have k2 := c2.out w1
  have k3 := c3.out w1 E1
  have E : Hid (Ext w w1) := E1
  clear c1 c2 E1 c3
  go_wp2_with fail
  refine k2.mono ?_
  rintro e w' ⟨rfl, hh⟩
  have hh := hh.symm
  subst hh
  clear k2
  go_wp2_with fail
  refine k3.mono ?_
  rintro e w' ⟨rfl, hh⟩
  have hh := hh.symm
  subst hh
  clear k3
  go_wp2
  go_ret
  exact ⟨rfl, E.out⟩

set_option maxRecDepth 100000 in
theorem fixes_good (k : Nat) (y : Nm) (hz : ∀ x ∈ y.z, 0 ≤ x ∧ x ≤ 15) (hk1 : 1 ≤ k) (hk2 : k ≤ y.z.length) (hn : y.z.length ≤ 9) (w : World) (hy : Nums w y) (tb : TB w) : Calls Tryd.prog 3 #[.int .i64 k, y.v] w fun e w' => e = .returned (.bool true) ∧ Ext w w' := by
  have c1 := Fix_any k y hz hk1 hk2 hn w hy tb
  have c2 : Hid (∀ W, Calls Tryd.prog 6 #[.int .i64 k, y.v] W fun e w' => e = .returned (.int .i64 0) ∧ w' = W) := fun W => by
    have := refCounts_any k y W
    rw [pc_good (by omega) (by omega) (by omega)] at this
    exact this
  have c3 : Hid (∀ W, Ext w W → Calls Tryd.prog 7 #[y.v] W fun e w' => e = .returned (.int .i64 0) ∧ w' = W) := fun W E => by
    have := refCheck_any y W (hy.ext E)
    rw [fe_good hz] at this
    exact this
  have c4 : Hid (∀ W, Ext w W → Calls Tryd.prog 8 #[.int .i64 k, y.v] W fun e w' => Ext W w' ∧ ∃ (m : Nm) (X : Int), e = .returned (.tuple #[m.v, .bool (X == 0)]) ∧ Nums w' m ∧ Told y.z k X m.z) := fun W E => Fixed_any k y hz hk1 hk2 hn W (hy.ext E)
  clear hz hy tb
  generalize y.v = yv at *
  go_enter Tryd.func3, Tryd.ntmps3
  go_wp2_with fail
  refine c1.mono ?_
  rintro e w1 ⟨E1, m, X, rfl, hN, hT⟩
  have k2 := c2.out w1
  have k3 := c3.out w1 E1
  have k4 := c4.out w1 E1
  have E : Hid (Ext w w1) := E1
  have HN : Hid (Nums w1 m ∧ Told y.z k X m.z) := ⟨hN, hT⟩
  clear c1 c2 E1 c3 c4 hN hT
  generalize hmv : m.v = mv at *
  have HMV : Hid (m.v = mv) := hmv
  clear hmv
  go_wp2_with fail
  refine k2.mono ?_
  rintro e w' ⟨rfl, hh⟩
  have hh := hh.symm
  subst hh
  clear k2
  go_wp2_with fail
  refine k3.mono ?_
  rintro e w' ⟨rfl, hh⟩
  have hh := hh.symm
  subst hh
  clear k3
  go_wp2_with fail
  refine k4.mono ?_
  rintro e w2 ⟨E2, m2, X2, rfl, hN2, hT2⟩
  obtain ⟨eX, er⟩ := told_one HN.out.2 hT2
  have E3 : Hid (Ext w w2) := E.out.trans E2
  have hX : X = 0 ∨ X = 5 ∧ m.z = [] := by
    rcases HN.out.2 with h | h
    · exact .inl h.1
    · exact .inr ⟨h.1, h.2.1⟩
  subst eX
  rcases hX with rfl | ⟨rfl, hnil⟩
  · have k5 := ints_any m m2 w2 (HN.out.1.ext E2) hN2
    rw [er, beq_self_eq_true, HMV.out] at k5
    clear k4 E2 hN2 hT2 er HN HMV E
    generalize m2.v = m2v at *
    go_wp2_with fail
    refine k5.mono ?_
    rintro e w3 ⟨rfl, q⟩
    have E4 : Hid (Ext w w3) := E3.out.trans q.ext
    clear k5 q E3
    go_wp2
    go_ret
    exact ⟨rfl, E4.out⟩
  · have hv : mv = .slice m.a 0 m.c := by rw [← HMV.out, Nm.v, hnil]; rfl
    subst hv
    clear k4 E2 hN2 hT2 er HN E hnil HMV
    generalize m2.v = m2v at *
    go_wp2
    go_ret
    exact ⟨rfl, E3.out⟩

theorem fixes_walk (k : Int) (y : Nm) (w : World) (hy : Nums w y) (tb : TB w) : Calls Tryd.prog 3 #[.int .i64 k, y.v] w fun e w' => e = .returned (.bool true) ∧ Ext w w' := by
  by_cases h0 : pc k y.z.length = 0
  · have hp := pc_zero h0
    by_cases hf : fe y.z = 0
    · obtain ⟨m, rfl⟩ : ∃ m : Nat, k = m := ⟨k.toNat, by omega⟩
      exact fixes_good m y (fe_zero hf) (by omega) (by omega) (by omega) w hy tb
    · exact fixes_range k y h0 hf w hy
  · exact fixes_counts k y h0 w

set_option maxRecDepth 100000 in
theorem pointsFixes_lifted (os : Os) (started : os.Started) (H : Type) (enc : TypeId × Value → H) :
    ReturnsInHanded {} Tryd.checked os 3 .any (fun w args => (Rows.pointsFixesSpec.pre enc Tryd.prog Tryd.f3 [] false w args ∧ laidMetH Tryd.prog Rows.pointsFixesRow.laid w) ∧ sizedMet enc Tryd.prog Tryd.f3 (OpenSpec.ofChange Rows.pointsFixesSpec) false w args)
      (Rows.pointsFixesSpec.post enc Tryd.prog Tryd.f3 false true false false) := by
  refine returnsInHanded_of_change_and (C := Tryd.checked) (X := fun w _ => laidMetH Tryd.prog Rows.pointsFixesRow.laid w) (fun _ _ _ hh h => h.of_heap hh) own started (by kernel_rfl) Tryd.func3
    (ChangeSpec.witness_shaped (enc := enc) (C := Tryd.checked) (os := os) (X := fun w _ => laidMetH Tryd.prog Rows.pointsFixesRow.laid w) false (World.doorLaid Tryd.prog 400 os) #[.int .i64 0, .slice none 0 0] 8 rfl (World.shaped_of_RefB (by kernel_rfl) (by kernel_rfl)) (by kernel_rfl) (by kernel_rfl) (by kernel_rfl) (door_met os _)) ?_
  intro W base args ds gs before hval0 hW _ _ hL _
  have hval : ∀ (j : Nat) t v, Tryd.f3.params[j]? = some t → args[j]? = some v → Value.okWide Tryd.prog W .any base t v := hval0
  have hW' := hW
  obtain ⟨p, q, hA0, hV, rfl, hfz, hnd⟩ := hW
  have hA : DataW.TrodAll enc Tryd.prog W 0 (fun _ => true) true Tryd.f3.params.toList args.toList ds p := hA0
  rw [Tryd.params3] at hA hval
  obtain ⟨v0, vs0, d0, ds0, p0, q0, hargs, rfl, rfl, h0, r0⟩ := trodAll_cons hA
  obtain ⟨v1, vs1, d1, ds1, p1, q1, rfl, rfl, rfl, h1, r1⟩ := trodAll_cons r0
  obtain ⟨rfl, rfl, rfl⟩ := trodAll_nil r1
  obtain rfl : args = #[v0, v1] := by cases args; simp_all
  obtain ⟨rfl, rfl⟩ := trodVars_none hV
  have lt0 : ∀ x ∈ p0, x.block < W.heap.size := by obtain ⟨m, hm⟩ := h0; exact DataW.trod_lt m _ _ _ hm
  obtain ⟨x0, rfl, -, -, wf0⟩ := open_int Tryd.underlying3 (hval 0 3 v0 rfl rfl) h0
  have lt1 : ∀ x ∈ p1, x.block < W.heap.size := by obtain ⟨m, hm⟩ := h1; exact DataW.trod_lt m _ _ _ hm
  obtain ⟨x1, rfl, w1⟩ := open_syms (hval 1 22 v1 rfl rfl) h1
  clear hA0 hval0
  refine (fixes_walk x0 x1 W w1 (of_laid hL)).mono fun e W' ⟨he, bel⟩ => ?_
  subst he
  exact ⟨_, rfl, _, _, _, [], _, [], hW', trodAll_mk1 (shut_bool Tryd.underlying4 _), (trodAll_cons_mk (Below.trod laidOut (by kernel_rfl) (of_decide_eq_true (by kernel_rfl)) h0 bel lt0) (trodAll_cons_mk (Below.trod laidOut (by kernel_rfl) (of_decide_eq_true (by kernel_rfl)) h1 bel lt1) trodAll_mk0)), rfl, bel.frame _, fun h => by cases h⟩

theorem pointsFixes_holds : Rows.PointsFixesSaid :=
  OpenClaim.holds_of_wide 3 Tryd.f3 rfl rfl rfl rfl rfl rfl rfl ⟨rfl, rfl, rfl, rfl, rfl⟩ rfl rfl rfl rfl rfl (by kernel_rfl) Tryd.func3 (by kernel_rfl)
    (of_decide_eq_true (by kernel_rfl)) (by unfold Func.isWrapper; first | (rw [if_pos (by decide +kernel)]; kernel_rfl) | (rw [if_neg (by decide +kernel)]; exact ⟨rfl, rfl⟩))
    (fun os started H enc _ => pointsFixes_lifted os started H enc)

/-- The tied card. -/
theorem pointsFixes_card : Rows.PointsFixesCardSaid :=
  Claim7.holds_tied_plain_at .later [] [.data] true (true, "effe0f8b614620ce45b2be6658ca2675bddeade50248e57838a14a321e6d57dd") false
    pointsFixes_holds (fun _ h => by cases h) (by kernel_rfl) (fun _ h => by cases h) pointsFixes_row_tie rfl ⟨rfl, rfl⟩ (by kernel_rfl) rfl
    (fun f fn hf hfn => by
      obtain rfl : f = 3 := Option.some.inj ((show Tryd.prog.funcNamed "quipu/quipulaw.PointsFixes" = some 3 by kernel_rfl).symm.trans hf) |>.symm
      obtain rfl : fn = Tryd.f3 := (Option.some.inj (Tryd.func3.symm.trans hfn)).symm
      exact ⟨by kernel_rfl, fun j t ht => by
        rw [Tryd.params3] at ht
        have hm : t ∈ [3, 22] := by simpa using Array.mem_of_getElem? ht
        have hall : ([3, 22].all fun u => !Tryd.prog.wantsStandIn u) = true := by kernel_rfl
        exact (show Tryd.prog.wantsStandIn t = false by simpa using List.all_eq_true.1 hall t hm)⟩)
    (by kernel_rfl)

#print axioms pointsFixes_card

end Go.Proofs.YtjdipgkdaloclaaDoor
