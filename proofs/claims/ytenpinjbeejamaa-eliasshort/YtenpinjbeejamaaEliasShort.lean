/-
  For any two numbers: the greater one's is no shorter; Gamma has one less than twice as many bits as there are digits; and from 32 on Delta has no more: EliasShort returns true for every two numbers, and changes nothing.
-/
import Derived.Test.YtenpinjbeejamaaOpen
import Derived.Test.YtenpinjbeejamaaGam
namespace Go.Proofs.Ytenpinjbeejamaa
open Go.ChangeShapes Go.WideShapes Go.ChangeAt Go.RowKit Go.Deep
set_option linter.unusedVariables false

/-- How long what is told is. -/
def gl (n : Int) : Nat := if 1 ≤ n ∧ n ≤ 1048576 then (gam n.toNat).length else 0
def dl (n : Int) : Nat := if 1 ≤ n ∧ n ≤ 1048576 then (del n.toNat).length else 0

theorem Gamma_len (n : Int) (w : World) : Calls Try.prog 9 #[.int .i64 n] w fun e w' => ∃ x : Wd, e = .returned (.tuple #[x.v, .int .i64 (ck n)]) ∧ x.l.length = gl n ∧ Ext w w' := by
  by_cases hr : 1 ≤ n ∧ n ≤ 1048576
  · obtain ⟨m, rfl⟩ := Int.eq_ofNat_of_zero_le (show 0 ≤ n by omega)
    refine (Gamma_good m (by omega) (by omega) w).mono ?_
    rintro e w1 ⟨v, rfl, ⟨x, rfl, hx, _⟩, he⟩
    refine ⟨x, ?_, ?_, he⟩
    · rw [show ck (m : Int) = 0 from if_pos hr]
    · rw [hx, show gl (m : Int) = (gam m).length from if_pos hr]
  · refine (Gamma_bad n hr w).mono ?_
    rintro e w1 ⟨rfl, rfl⟩
    refine ⟨⟨none, 0, []⟩, ?_, ?_, Ext.refl _⟩
    · rw [show ck n = 4 from if_neg hr]; rfl
    · exact (show gl n = 0 from if_neg hr).symm
theorem Delta_len (n : Int) (w : World) : Calls Try.prog 12 #[.int .i64 n] w fun e w' => ∃ x : Wd, e = .returned (.tuple #[x.v, .int .i64 (ck n)]) ∧ x.l.length = dl n ∧ Ext w w' := by
  by_cases hr : 1 ≤ n ∧ n ≤ 1048576
  · obtain ⟨m, rfl⟩ := Int.eq_ofNat_of_zero_le (show 0 ≤ n by omega)
    refine (Delta_good m (by omega) (by omega) w).mono ?_
    rintro e w1 ⟨v, rfl, ⟨x, rfl, hx, _⟩, he⟩
    refine ⟨x, ?_, ?_, he⟩
    · rw [show ck (m : Int) = 0 from if_pos hr]
    · rw [hx, show dl (m : Int) = (del m).length from if_pos hr]
  · refine (Delta_bad n hr w).mono ?_
    rintro e w1 ⟨rfl, rfl⟩
    refine ⟨⟨none, 0, []⟩, ?_, ?_, Ext.refl _⟩
    · rw [show ck n = 4 from if_neg hr]; rfl
    · exact (show dl n = 0 from if_neg hr).symm

theorem nd_half_of {k : Nat} (h6 : 6 ≤ k) (h21 : k ≤ 21) : 2 * nd k ≤ k + 1 := by
  by_cases h8 : k < 8
  · have := nd_below (n := k) (k := 3) (by omega)
    omega
  · by_cases h16 : k < 16
    · have := nd_below (n := k) (k := 4) (by omega)
      omega
    · have := nd_below (n := k) (k := 5) (by omega)
      omega

theorem lens_fine {n m : Nat} (h0 : n ≠ 0) (hnm : n ≤ m) (hm : m ≤ 1048576) :
    (gam n).length ≤ (gam m).length ∧ (del n).length ≤ (del m).length ∧ (gam n).length + 1 = 2 * nd n ∧ (32 ≤ n → (del n).length ≤ (gam n).length) := by
  have a1 := nd_mono hnm
  have a2 := nd_mono a1
  have a3 := nd_pos h0
  have a4 := nd_21 (Nat.le_trans hnm hm)
  have a5 := nd_pos (n := nd n) (by omega)
  rw [gam_length, gam_length, del_length, del_length]
  refine ⟨by omega, by omega, by omega, fun h => ?_⟩
  have a6 : nd 32 = 6 := nd_of (by omega) (by omega)
  have a7 := nd_mono h
  have a8 := nd_half_of (k := nd n) (by omega) a4
  omega

set_option maxHeartbeats 4000000 in
theorem eliasShort_walk (n m : Int) (w : World) : Calls Try.prog 8 #[.int .i64 n, .int .i64 m] w fun e w' => e = .returned (.bool true) ∧ Ext w w' := by
  have hga : Hid (∀ n W, Calls Try.prog 9 #[.int .i64 n] W fun e w' => ∃ x : Wd, e = .returned (.tuple #[x.v, .int .i64 (ck n)]) ∧ x.l.length = gl n ∧ Ext W w') := Gamma_len
  have hda : Hid (∀ n W, Calls Try.prog 12 #[.int .i64 n] W fun e w' => ∃ x : Wd, e = .returned (.tuple #[x.v, .int .i64 (ck n)]) ∧ x.l.length = dl n ∧ Ext W w') := Delta_len
  by_cases h1 : n < 1
  · have hcn : Hid (ck n = 4) := if_neg (by omega)
    have h1b : ¬ (n ≥ 1) := by omega
    go_enter Try.func8, Try.ntmps8
    go_wp2_with fail
    refine (hga.out n w).mono ?_
    rintro e w1 ⟨x1, rfl, -, h1⟩
    have E1 : Hid (Ext w w1) := h1
    clear h1
    go_wp2_with fail
    refine (hga.out m w1).mono ?_
    rintro e w2 ⟨x2, rfl, -, h2⟩
    have E2 : Hid (Ext w w2) := E1.out.trans h2
    clear h2 E1
    go_wp2_with fail
    refine (hda.out n w2).mono ?_
    rintro e w3 ⟨x3, rfl, -, h3⟩
    have E3 : Hid (Ext w w3) := E2.out.trans h3
    clear h3 E2
    go_wp2_with fail
    refine (hda.out m w3).mono ?_
    rintro e w4 ⟨x4, rfl, -, h4⟩
    have E4 : Hid (Ext w w4) := E3.out.trans h4
    clear h4 E3 hga hda
    generalize x1.l.length = n1 at *
    generalize x2.l.length = n2 at *
    generalize x3.l.length = n3 at *
    generalize x4.l.length = n4 at *
    rw [hcn.out]
    generalize ck m = cm at *
    go_wp2
    go_ret
    exact ⟨ret_bool (by simp <;> omega), E4.out⟩
  by_cases h2 : n > 1048576
  · have hcn : Hid (ck n = 4) := if_neg (by omega)
    have h2a : n ≥ 1 := by omega
    have h2b : ¬ (n ≤ 1048576) := by omega
    go_enter Try.func8, Try.ntmps8
    go_wp2_with fail
    refine (hga.out n w).mono ?_
    rintro e w1 ⟨x1, rfl, -, h1⟩
    have E1 : Hid (Ext w w1) := h1
    clear h1
    go_wp2_with fail
    refine (hga.out m w1).mono ?_
    rintro e w2 ⟨x2, rfl, -, h2⟩
    have E2 : Hid (Ext w w2) := E1.out.trans h2
    clear h2 E1
    go_wp2_with fail
    refine (hda.out n w2).mono ?_
    rintro e w3 ⟨x3, rfl, -, h3⟩
    have E3 : Hid (Ext w w3) := E2.out.trans h3
    clear h3 E2
    go_wp2_with fail
    refine (hda.out m w3).mono ?_
    rintro e w4 ⟨x4, rfl, -, h4⟩
    have E4 : Hid (Ext w w4) := E3.out.trans h4
    clear h4 E3 hga hda
    generalize x1.l.length = n1 at *
    generalize x2.l.length = n2 at *
    generalize x3.l.length = n3 at *
    generalize x4.l.length = n4 at *
    rw [hcn.out]
    generalize ck m = cm at *
    go_wp2
    go_ret
    exact ⟨ret_bool (by simp <;> omega), E4.out⟩
  have hcn : Hid (ck n = 0) := if_pos (by omega)
  have h2a : n ≥ 1 := by omega
  have h2b : n ≤ 1048576 := by omega
  by_cases h3 : m < n
  · skip
    go_enter Try.func8, Try.ntmps8
    go_wp2_with fail
    refine (hga.out n w).mono ?_
    rintro e w1 ⟨x1, rfl, -, h1⟩
    have E1 : Hid (Ext w w1) := h1
    clear h1
    go_wp2_with fail
    refine (hga.out m w1).mono ?_
    rintro e w2 ⟨x2, rfl, -, h2⟩
    have E2 : Hid (Ext w w2) := E1.out.trans h2
    clear h2 E1
    go_wp2_with fail
    refine (hda.out n w2).mono ?_
    rintro e w3 ⟨x3, rfl, -, h3⟩
    have E3 : Hid (Ext w w3) := E2.out.trans h3
    clear h3 E2
    go_wp2_with fail
    refine (hda.out m w3).mono ?_
    rintro e w4 ⟨x4, rfl, -, h4⟩
    have E4 : Hid (Ext w w4) := E3.out.trans h4
    clear h4 E3 hga hda
    generalize x1.l.length = n1 at *
    generalize x2.l.length = n2 at *
    generalize x3.l.length = n3 at *
    generalize x4.l.length = n4 at *
    rw [hcn.out]
    generalize ck m = cm at *
    go_wp2
    go_ret
    exact ⟨ret_bool (by simp <;> omega), E4.out⟩
  by_cases h4 : m > 1048576
  · skip
    go_enter Try.func8, Try.ntmps8
    go_wp2_with fail
    refine (hga.out n w).mono ?_
    rintro e w1 ⟨x1, rfl, -, h1⟩
    have E1 : Hid (Ext w w1) := h1
    clear h1
    go_wp2_with fail
    refine (hga.out m w1).mono ?_
    rintro e w2 ⟨x2, rfl, -, h2⟩
    have E2 : Hid (Ext w w2) := E1.out.trans h2
    clear h2 E1
    go_wp2_with fail
    refine (hda.out n w2).mono ?_
    rintro e w3 ⟨x3, rfl, -, h3⟩
    have E3 : Hid (Ext w w3) := E2.out.trans h3
    clear h3 E2
    go_wp2_with fail
    refine (hda.out m w3).mono ?_
    rintro e w4 ⟨x4, rfl, -, h4⟩
    have E4 : Hid (Ext w w4) := E3.out.trans h4
    clear h4 E3 hga hda
    generalize x1.l.length = n1 at *
    generalize x2.l.length = n2 at *
    generalize x3.l.length = n3 at *
    generalize x4.l.length = n4 at *
    rw [hcn.out]
    generalize ck m = cm at *
    go_wp2
    go_ret
    exact ⟨ret_bool (by simp <;> omega), E4.out⟩
  obtain ⟨a, rfl⟩ := Int.eq_ofNat_of_zero_le (show 0 ≤ n by omega)
  obtain ⟨b, rfl⟩ := Int.eq_ofNat_of_zero_le (show 0 ≤ m by omega)
  have hcm : Hid (ck (b : Int) = 0) := if_pos (by omega)
  obtain ⟨l1, l2, l3, l4⟩ := lens_fine (n := a) (m := b) (by omega) (by omega) (by omega)
  have g1 : Hid (gl (a : Int) = (gam a).length) := if_pos (by omega)
  have g2 : Hid (gl (b : Int) = (gam b).length) := if_pos (by omega)
  have g3 : Hid (dl (a : Int) = (del a).length) := if_pos (by omega)
  have g4 : Hid (dl (b : Int) = (del b).length) := if_pos (by omega)
  have a4 := nd_21 (n := a) (by omega)
  have HND : Hid (nd a + 0 = nd a) := rfl
  generalize (gam a).length = A1 at *
  generalize (gam b).length = A2 at *
  generalize (del a).length = A3 at *
  generalize (del b).length = A4 at *
  obtain ⟨s, hs⟩ : ∃ s, nd a = s := ⟨_, rfl⟩
  rw [hs] at l3 a4
  have HS : Hid (nd a + 0 = s) := hs
  clear hs HND
  go_enter Try.func8, Try.ntmps8
  go_wp2_with fail
  refine (hga.out _ w).mono ?_
  rintro e w1 ⟨x1, rfl, q1, h1⟩
  have E1 : Hid (Ext w w1) := h1
  clear h1
  rw [g1.out] at q1
  go_wp2_with fail
  refine (hga.out _ w1).mono ?_
  rintro e w2 ⟨x2, rfl, q2, h2⟩
  have E2 : Hid (Ext w w2) := E1.out.trans h2
  clear h2 E1
  rw [g2.out] at q2
  go_wp2_with fail
  refine (hda.out _ w2).mono ?_
  rintro e w3 ⟨x3, rfl, q3, h3⟩
  have E3 : Hid (Ext w w3) := E2.out.trans h3
  clear h3 E2
  rw [g3.out] at q3
  go_wp2_with fail
  refine (hda.out _ w3).mono ?_
  rintro e w4 ⟨x4, rfl, q4, h4⟩
  have E4 : Hid (Ext w w4) := E3.out.trans h4
  clear h4 E3 hga hda
  rw [g4.out] at q4
  simp only [Wd.v]
  rw [q1, q2, q3, q4, hcn.out, hcm.out]
  clear q1 q2 q3 q4 g1 g2 g3 g4 hcn hcm
  have FIN : Hid ((A1 : Int) ≤ A2 ∧ (A3 : Int) ≤ A4 ∧ (A1 : Int) = 2 * (s : Int) - 1 ∧ ((a : Int) < 32 ∨ (A3 : Int) ≤ A1)) := by
    refine ⟨by omega, by omega, by omega, ?_⟩
    by_cases h : 32 ≤ a
    · have := l4 h
      right; omega
    · left; omega
  clear l1 l2 l3 l4
  go_wp2
  go_loopg [13, 14] a (fun gg u v wr => wr = w4 ∧ ∃ x k : Nat, x ≤ gg ∧ x ≤ 1048576 ∧ k ≤ 21 ∧ u = .int .i64 k ∧ v = .int .i64 x ∧ Hid (nd x + k = s))
  case atStart => exact ⟨rfl, a, 0, Nat.le_refl _, by omega, by omega, rfl, rfl, HS.out⟩
  case round =>
    obtain ⟨rfl, x, k, hgg, hx, hk, rfl, rfl, hi⟩ := hrel
    by_cases h0 : x = 0
    · subst h0
      have hks : k = s := by have := hi.out; rw [nd_zero] at this; omega
      subst hks
      clear hi
      obtain ⟨f1, f2, f3, f4⟩ := FIN.out
      rcases f4 with f4 | f4
      · clear FIN
        go_wp2
        go_ret
        exact ⟨ret_bool (by simp <;> omega), E4.out⟩
      · clear FIN
        by_cases f5 : (a : Int) < 32
        · go_wp2
          go_ret
          exact ⟨ret_bool (by simp <;> omega), E4.out⟩
        · go_wp2
          go_ret
          exact ⟨ret_bool (by simp <;> omega), E4.out⟩
    · have hlt : (x : Int) > 0 := by omega
      have h2 : Hid (nd (x / 2) + (k + 1) = s) := by
        have := hi.out
        rw [nd_half x h0] at this
        show _ = _
        omega
      have hk2 : k + 1 ≤ 21 := by have := h2.out; omega
      clear hi
      go_wp2
      go_roundg (x / 2)
      case measure => omega
      case rel => exact ⟨rfl, x / 2, k + 1, Nat.le_refl _, by omega, hk2, by go_num, by go_num, h2.out⟩

set_option maxRecDepth 100000 in
theorem eliasShort_lifted (os : Os) (started : os.Started) (H : Type) (enc : TypeId × Value → H) :
    ReturnsInHanded {} Try.checked os 8 .any (Rows.eliasShortSpec.pre6 enc Try.prog Try.f8 Rows.eliasShortRow.domain false) (Rows.eliasShortSpec.post enc Try.prog Try.f8 false true false false) := by
  refine returnsInHanded_of_change (C := Try.checked) own started (by kernel_rfl) Try.func8
    (ChangeSpec.witness6 (enc := enc) (C := Try.checked) false ⟨#[], #[.int .i64 0, .int .i64 0], []⟩ 8 (by kernel_rfl) (by kernel_rfl) (by kernel_rfl) (by kernel_rfl)) ?_
  intro W base args ds gs before hval0 hW _ _
  have hval : ∀ (j : Nat) t v, Try.f8.params[j]? = some t → args[j]? = some v → Value.okWide Try.prog W .any base t v := hval0
  have hW' := hW
  obtain ⟨p, q, hA0, hV, rfl, hfz, hnd⟩ := hW
  have hA : DataW.TrodAll enc Try.prog W 0 (fun _ => true) true Try.f8.params.toList args.toList ds p := hA0
  rw [Try.params8] at hA hval
  obtain ⟨v0, vs0, d0, ds0, p0, q0, hargs, rfl, rfl, h0, r0⟩ := trodAll_cons hA
  obtain ⟨v1, vs1, d1, ds1, p1, q1, rfl, rfl, rfl, h1, r1⟩ := trodAll_cons r0
  obtain ⟨rfl, rfl, rfl⟩ := trodAll_nil r1
  obtain rfl : args = #[v0, v1] := by cases args; simp_all
  obtain ⟨rfl, rfl⟩ := trodVars_none hV
  have lt0 : ∀ x ∈ p0, x.block < W.heap.size := by obtain ⟨m, hm⟩ := h0; exact DataW.trod_lt m _ _ _ hm
  obtain ⟨x0, rfl, -, -, wf0⟩ := open_int Try.underlying3 (hval 0 3 v0 rfl rfl) h0
  have lt1 : ∀ x ∈ p1, x.block < W.heap.size := by obtain ⟨m, hm⟩ := h1; exact DataW.trod_lt m _ _ _ hm
  obtain ⟨x1, rfl, -, -, wf1⟩ := open_int Try.underlying3 (hval 1 3 v1 rfl rfl) h1
  clear hA0 hval0
  refine (eliasShort_walk x0 x1 W).mono fun e W' ⟨he, bel⟩ => ?_
  subst he
  exact ⟨_, rfl, _, _, _, [], _, [], hW', trodAll_mk1 (shut_bool Try.underlying4 _), (trodAll_cons_mk (Below.trod laidOut (by kernel_rfl) (of_decide_eq_true (by kernel_rfl)) h0 bel lt0) (trodAll_cons_mk (Below.trod laidOut (by kernel_rfl) (of_decide_eq_true (by kernel_rfl)) h1 bel lt1) trodAll_mk0)), rfl, bel.frame _, fun h => by cases h⟩

theorem eliasShort_holds : Rows.EliasShortSaid :=
  OpenClaim.holds_of_wide 8 Try.f8 rfl rfl rfl rfl rfl rfl rfl ⟨rfl, rfl, rfl, rfl, rfl⟩ rfl rfl rfl rfl rfl (by kernel_rfl) Try.func8 (by kernel_rfl)
    (of_decide_eq_true (by kernel_rfl)) (by unfold Func.isWrapper; rw [if_neg (of_decide_eq_false (by kernel_rfl))]; exact ⟨rfl, rfl⟩)
    (fun os started H enc _ => eliasShort_lifted os started H enc)

#print axioms eliasShort_holds

end Go.Proofs.Ytenpinjbeejamaa
