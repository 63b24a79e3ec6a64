/-
  For any numbers: rank.Word tells the word that is so many-th of all with so many set bits: RankWords returns true for every three numbers, and changes nothing.
-/
import Derived.Test.YtencpkmojjbjcaaOpen
import Derived.Test.YtencpkmojjbjcaaWd
namespace Go.Proofs.Ytencpkmojjbjcaa
open Go.ChangeShapes Go.WideShapes Go.ChangeAt Go.RowKit Go.Deep
set_option linter.unusedVariables false

theorem rankWords_walk (n k i : Int) (w : World) : Calls Try.prog 5 #[.int .i64 n, .int .i64 k, .int .i64 i] w fun e w' => e = .returned (.bool true) ∧ Ext w w' := by
  have c2 := bitsAnd_any n k w
  by_cases hm : mer n k = 0
  · rw [hm] at c2
    obtain ⟨N, K, rfl, rfl, hN, hK⟩ := mer_zero hm
    have c3 := refMany_any N K 2147483648 hN (by omega) w
    have hM : 2 ^ N ≤ 2 ^ 12 := Nat.pow_le_pow_right (by omega) (by omega)
    rw [show min 2147483648 (2 ^ N) = 2 ^ N by omega, cnt_all N K (by omega)] at c3
    rw [show ((2147483648 : Nat) : Int) = 2147483648 from rfl] at c3
    clear hM
    by_cases hi : 0 ≤ i ∧ i < (ch N K : Nat)
    · obtain ⟨I, rfl⟩ : ∃ I : Nat, i = I := ⟨i.toNat, by omega⟩
      have c1 := word_good N K I hN hK (by omega) w
      have c4 := refWord_any N K I hN (by omega) w
      have hd : ¬ (ch N K ≤ I) := by omega
      clear hm hi
      generalize ch N K = C at *
      generalize wordOf N K I = R at *
      go_enter Try.func5, Try.ntmps5
      go_wp2_with fail
      refine c1.mono ?_
      rintro e w' ⟨rfl, rfl⟩
      clear c1
      go_wp2_with fail
      refine c2.mono ?_
      rintro e w' ⟨rfl, rfl⟩
      clear c2
      go_wp2_with fail
      refine c3.mono ?_
      rintro e w' ⟨rfl, rfl⟩
      clear c3
      go_wp2_with fail
      refine c4.mono ?_
      rintro e w' ⟨rfl, rfl⟩
      clear c4
      go_wp2
      go_ret
      exact ⟨ret_bool (by simp), Ext.refl _⟩
    · have hw : wer (N : Int) (K : Int) i = 5 := by
        unfold wer
        rw [if_pos hm]
        simp only [Int.toNat_natCast]
        exact if_neg hi
      have c1 := word_bad (N : Int) (K : Int) i (by rw [hw]; decide) w
      rw [hw] at c1
      clear hw hm
      generalize ch N K = C at *
      rcases Int.lt_or_le i 0 with h0 | h0
      · clear hi c3
        go_enter Try.func5, Try.ntmps5
        go_wp2_with fail
        refine c1.mono ?_
        rintro e w' ⟨rfl, rfl⟩
        clear c1
        go_wp2_with fail
        refine c2.mono ?_
        rintro e w' ⟨rfl, rfl⟩
        clear c2
        go_wp2
        go_ret
        exact ⟨ret_bool (by simp), Ext.refl _⟩
      · have h1 : (C : Int) ≤ i := by omega
        clear hi
        go_enter Try.func5, Try.ntmps5
        go_wp2_with fail
        refine c1.mono ?_
        rintro e w' ⟨rfl, rfl⟩
        clear c1
        go_wp2_with fail
        refine c2.mono ?_
        rintro e w' ⟨rfl, rfl⟩
        clear c2
        go_wp2_with fail
        refine c3.mono ?_
        rintro e w' ⟨rfl, rfl⟩
        clear c3
        go_wp2
        go_ret
        exact ⟨ret_bool (by simp), Ext.refl _⟩
  · have hw : wer n k i = mer n k := if_neg hm
    have c1 := word_bad n k i (by rw [hw]; exact hm) w
    rw [hw] at c1
    have hz : (mer n k != 0) = true := by rw [bne_iff_ne]; exact hm
    have hz2 : (mer n k == 0) = false := by rw [beq_eq_false_iff_ne]; exact hm
    clear hw hm
    generalize mer n k = E at *
    go_enter Try.func5, Try.ntmps5
    go_wp2_with fail
    refine c1.mono ?_
    rintro e w' ⟨rfl, rfl⟩
    clear c1
    go_wp2_with fail
    refine c2.mono ?_
    rintro e w' ⟨rfl, rfl⟩
    clear c2
    go_wp2
    go_ret
    exact ⟨ret_bool (by simp), Ext.refl _⟩

set_option maxRecDepth 100000 in
theorem rankWords_lifted (os : Os) (started : os.Started) (H : Type) (enc : TypeId × Value → H) :
    ReturnsInHanded {} Try.checked os 5 .any (Rows.rankWordsSpec.pre6 enc Try.prog Try.f5 Rows.rankWordsRow.domain false) (Rows.rankWordsSpec.post enc Try.prog Try.f5 false true false false) := by
  refine returnsInHanded_of_change (C := Try.checked) own started (by kernel_rfl) Try.func5
    (ChangeSpec.witness6 (enc := enc) (C := Try.checked) false ⟨#[], #[.int .i64 0, .int .i64 0, .int .i64 0], []⟩ 8 (by kernel_rfl) (by kernel_rfl) (by kernel_rfl) (by kernel_rfl)) ?_
  intro W base args ds gs before hval0 hW _ _
  have hval : ∀ (j : Nat) t v, Try.f5.params[j]? = some t → args[j]? = some v → Value.okWide Try.prog W .any base t v := hval0
  have hW' := hW
  obtain ⟨p, q, hA0, hV, rfl, hfz, hnd⟩ := hW
  have hA : DataW.TrodAll enc Try.prog W 0 (fun _ => true) true Try.f5.params.toList args.toList ds p := hA0
  rw [Try.params5] at hA hval
  obtain ⟨v0, vs0, d0, ds0, p0, q0, hargs, rfl, rfl, h0, r0⟩ := trodAll_cons hA
  obtain ⟨v1, vs1, d1, ds1, p1, q1, rfl, rfl, rfl, h1, r1⟩ := trodAll_cons r0
  obtain ⟨v2, vs2, d2, ds2, p2, q2, rfl, rfl, rfl, h2, r2⟩ := trodAll_cons r1
  obtain ⟨rfl, rfl, rfl⟩ := trodAll_nil r2
  obtain rfl : args = #[v0, v1, v2] := by cases args; simp_all
  obtain ⟨rfl, rfl⟩ := trodVars_none hV
  have lt0 : ∀ x ∈ p0, x.block < W.heap.size := by obtain ⟨m, hm⟩ := h0; exact DataW.trod_lt m _ _ _ hm
  obtain ⟨x0, rfl, -, -, wf0⟩ := open_int Try.underlying3 (hval 0 3 v0 rfl rfl) h0
  have lt1 : ∀ x ∈ p1, x.block < W.heap.size := by obtain ⟨m, hm⟩ := h1; exact DataW.trod_lt m _ _ _ hm
  obtain ⟨x1, rfl, -, -, wf1⟩ := open_int Try.underlying3 (hval 1 3 v1 rfl rfl) h1
  have lt2 : ∀ x ∈ p2, x.block < W.heap.size := by obtain ⟨m, hm⟩ := h2; exact DataW.trod_lt m _ _ _ hm
  obtain ⟨x2, rfl, -, -, wf2⟩ := open_int Try.underlying2 (hval 2 2 v2 rfl rfl) h2
  clear hA0 hval0
  refine (rankWords_walk x0 x1 x2 W).mono fun e W' ⟨he, bel⟩ => ?_
  subst he
  exact ⟨_, rfl, _, _, _, [], _, [], hW', trodAll_mk1 (shut_bool Try.underlying4 _), (trodAll_cons_mk (Below.trod laidOut (by kernel_rfl) (of_decide_eq_true (by kernel_rfl)) h0 bel lt0) (trodAll_cons_mk (Below.trod laidOut (by kernel_rfl) (of_decide_eq_true (by kernel_rfl)) h1 bel lt1) (trodAll_cons_mk (Below.trod laidOut (by kernel_rfl) (of_decide_eq_true (by kernel_rfl)) h2 bel lt2) trodAll_mk0))), rfl, bel.frame _, fun h => by cases h⟩

theorem rankWords_holds : Rows.RankWordsSaid :=
  OpenClaim.holds_of_wide 5 Try.f5 rfl rfl rfl rfl rfl rfl rfl ⟨rfl, rfl, rfl, rfl, rfl⟩ rfl rfl rfl rfl rfl (by kernel_rfl) Try.func5 (by kernel_rfl)
    (of_decide_eq_true (by kernel_rfl)) (by unfold Func.isWrapper; rw [if_neg (of_decide_eq_false (by kernel_rfl))]; exact ⟨rfl, rfl⟩)
    (fun os started H enc _ => rankWords_lifted os started H enc)

#print axioms rankWords_holds

end Go.Proofs.Ytencpkmojjbjcaa
