/-
  For any numbers: as many words have the last bit set, and have not, as the words of one bit less: RankPascal returns true for every two numbers, and changes nothing.
-/
import Derived.Test.YtencpkmojjbjcabOpen
import Derived.Test.YtencpkmojjbjcabBt
namespace Go.Proofs.Ytencpkmojjbjcab
open Go.ChangeShapes Go.WideShapes Go.ChangeAt Go.RowKit Go.Deep
set_option linter.unusedVariables false

theorem bits_yes (n : Int) (h0 : 0 ≤ n) (h1 : n ≤ 12) (w : World) : Calls Try.prog 6 #[.int .i64 n] w fun e w' => e = .returned (.bool true) ∧ w' = w := by
  go_enter Try.func6, Try.ntmps6
  go_wp2
  go_ret
  exact ⟨rfl, rfl⟩
theorem bits_no (n : Int) (h : ¬ (0 ≤ n ∧ n ≤ 12)) (w : World) : Calls Try.prog 6 #[.int .i64 n] w fun e w' => e = .returned (.bool false) ∧ w' = w := by
  rcases Int.lt_or_le n 0 with h0 | h0
  · go_enter Try.func6, Try.ntmps6
    go_wp2
    go_ret
    exact ⟨rfl, rfl⟩
  · have h1 : 12 < n := by omega
    go_enter Try.func6, Try.ntmps6
    go_wp2
    go_ret
    exact ⟨ret_bool (by simp; omega), rfl⟩

theorem rankPascal_walk (n k : Int) (w : World) : Calls Try.prog 3 #[.int .i64 n, .int .i64 k] w fun e w' => e = .returned (.bool true) ∧ Ext w w' := by
  by_cases hn : 0 ≤ n ∧ n ≤ 12
  · have c2 := bits_yes n hn.1 hn.2 w
    by_cases hk : 0 ≤ k ∧ k ≤ n
    · obtain ⟨N, rfl⟩ : ∃ N : Nat, n = N := ⟨n.toNat, by omega⟩
      obtain ⟨K, rfl⟩ : ∃ K : Nat, k = K := ⟨k.toNat, by omega⟩
      have c1 := many_good N K (by omega) (by omega) w
      have h1 : (K : Int) ≤ (N : Int) := by omega
      by_cases h0 : K = 0
      · subst h0
        rw [ch_zero] at c1
        rw [show ((0 : Nat) : Int) = 0 from rfl] at *
        rw [show ((1 : Nat) : Int) = 1 from rfl] at c1
        clear hk
        go_enter Try.func3, Try.ntmps3
        go_wp2_with fail
        refine c1.mono ?_
        rintro e w1 ⟨rfl, rfl⟩
        clear c1
        go_wp2_with fail
        refine c2.mono ?_
        rintro e w2 ⟨rfl, rfl⟩
        clear c2
        go_wp2
        go_ret
        exact ⟨rfl, Ext.refl _⟩
      · have h0z : ((K : Int) == 0) = false := by rw [beq_eq_false_iff_ne]; omega
        by_cases hs : K = N
        · subst hs
          rw [ch_same] at c1
          rw [show ((1 : Nat) : Int) = 1 from rfl] at c1
          clear hk
          go_enter Try.func3, Try.ntmps3
          go_wp2_with fail
          refine c1.mono ?_
          rintro e w1 ⟨rfl, rfl⟩
          clear c1
          go_wp2_with fail
          refine c2.mono ?_
          rintro e w2 ⟨rfl, rfl⟩
          clear c2
          go_wp2
          go_ret
          exact ⟨rfl, Ext.refl _⟩
        · have hsz : ((K : Int) == (N : Int)) = false := by rw [beq_eq_false_iff_ne]; omega
          have c3 := many_good (N - 1) K (by omega) (by omega) w
          have c4 := many_good (N - 1) (K - 1) (by omega) (by omega) w
          have e1 : ((N - 1 : Nat) : Int) = (N : Int) - 1 := by omega
          have e2 : ((K - 1 : Nat) : Int) = (K : Int) - 1 := by omega
          have hP : ch N K = ch (N - 1) (K - 1) + ch (N - 1) K := by
            obtain ⟨N', rfl⟩ : ∃ N', N = N' + 1 := ⟨N - 1, by omega⟩
            obtain ⟨K', rfl⟩ : ∃ K', K = K' + 1 := ⟨K - 1, by omega⟩
            rw [Nat.add_sub_cancel, Nat.add_sub_cancel]
            rfl
          have f1 := ch_few' (n := N - 1) (c := K) (by omega) (by omega)
          have f2 := ch_few' (n := N - 1) (c := K - 1) (by omega) (by omega)
          rw [hP] at c1
          rw [e1] at c3 c4
          rw [e2] at c4
          generalize ch (N - 1) K = A at *
          generalize ch (N - 1) (K - 1) = B at *
          have hAB : ((B + A : Nat) : Int) = (A : Int) + (B : Int) := by omega
          rw [hAB] at c1
          clear hk hP e1 e2 hAB
          go_enter Try.func3, Try.ntmps3
          go_wp2_with fail
          refine c1.mono ?_
          rintro e w1 ⟨rfl, rfl⟩
          clear c1
          go_wp2_with fail
          refine c2.mono ?_
          rintro e w2 ⟨rfl, rfl⟩
          clear c2
          go_wp2_with fail
          refine c3.mono ?_
          rintro e w3 ⟨rfl, rfl⟩
          clear c3
          go_wp2_with fail
          refine c4.mono ?_
          rintro e w4 ⟨rfl, rfl⟩
          clear c4
          go_wp2
          go_ret
          exact ⟨ret_bool (by simp), Ext.refl _⟩
    · have hm : mer n k = 4 := by unfold mer; rw [if_pos hn, if_neg hk]
      have c1 := many_bad n k (by rw [hm]; decide) w
      rw [hm] at c1
      clear hm
      rcases Int.lt_or_le k 0 with h0 | h0
      · go_enter Try.func3, Try.ntmps3
        go_wp2_with fail
        refine c1.mono ?_
        rintro e w1 ⟨rfl, rfl⟩
        clear c1
        go_wp2_with fail
        refine c2.mono ?_
        rintro e w2 ⟨rfl, rfl⟩
        clear c2
        go_wp2
        go_ret
        exact ⟨rfl, Ext.refl _⟩
      · have h1 : n < k := by omega
        go_enter Try.func3, Try.ntmps3
        go_wp2_with fail
        refine c1.mono ?_
        rintro e w1 ⟨rfl, rfl⟩
        clear c1
        go_wp2_with fail
        refine c2.mono ?_
        rintro e w2 ⟨rfl, rfl⟩
        clear c2
        go_wp2
        go_ret
        exact ⟨rfl, Ext.refl _⟩
  · have hm : mer n k = 1 := if_neg hn
    have c1 := many_bad n k (by rw [hm]; decide) w
    rw [hm] at c1
    have c2 := bits_no n hn w
    clear hm
    go_enter Try.func3, Try.ntmps3
    go_wp2_with fail
    refine c1.mono ?_
    rintro e w1 ⟨rfl, rfl⟩
    clear c1
    go_wp2_with fail
    refine c2.mono ?_
    rintro e w2 ⟨rfl, rfl⟩
    clear c2
    go_wp2
    go_ret
    exact ⟨rfl, Ext.refl _⟩

set_option maxRecDepth 100000 in
theorem rankPascal_lifted (os : Os) (started : os.Started) (H : Type) (enc : TypeId × Value → H) :
    ReturnsInHanded {} Try.checked os 3 .any (Rows.rankPascalSpec.pre6 enc Try.prog Try.f3 Rows.rankPascalRow.domain false) (Rows.rankPascalSpec.post enc Try.prog Try.f3 false true false false) := by
  refine returnsInHanded_of_change (C := Try.checked) own started (by kernel_rfl) Try.func3
    (ChangeSpec.witness6 (enc := enc) (C := Try.checked) false ⟨#[], #[.int .i64 0, .int .i64 0], []⟩ 8 (by kernel_rfl) (by kernel_rfl) (by kernel_rfl) (by kernel_rfl)) ?_
  intro W base args ds gs before hval0 hW _ _
  have hval : ∀ (j : Nat) t v, Try.f3.params[j]? = some t → args[j]? = some v → Value.okWide Try.prog W .any base t v := hval0
  have hW' := hW
  obtain ⟨p, q, hA0, hV, rfl, hfz, hnd⟩ := hW
  have hA : DataW.TrodAll enc Try.prog W 0 (fun _ => true) true Try.f3.params.toList args.toList ds p := hA0
  rw [Try.params3] at hA hval
  obtain ⟨v0, vs0, d0, ds0, p0, q0, hargs, rfl, rfl, h0, r0⟩ := trodAll_cons hA
  obtain ⟨v1, vs1, d1, ds1, p1, q1, rfl, rfl, rfl, h1, r1⟩ := trodAll_cons r0
  obtain ⟨rfl, rfl, rfl⟩ := trodAll_nil r1
  obtain rfl : args = #[v0, v1] := by cases args; simp_all
  obtain ⟨rfl, rfl⟩ := trodVars_none hV
  have lt0 : ∀ x ∈ p0, x.block < W.heap.size := by obtain ⟨m, hm⟩ := h0; exact DataW.trod_lt m _ _ _ hm
  obtain ⟨x0, rfl, -, -, wf0⟩ := open_int Try.underlying3 (hval 0 3 v0 rfl rfl) h0
  have lt1 : ∀ x ∈ p1, x.block < W.heap.size := by obtain ⟨m, hm⟩ := h1; exact DataW.trod_lt m _ _ _ hm
  obtain ⟨x1, rfl, -, -, wf1⟩ := open_int Try.underlying3 (hval 1 3 v1 rfl rfl) h1
  clear hA0 hval0
  refine (rankPascal_walk x0 x1 W).mono fun e W' ⟨he, bel⟩ => ?_
  subst he
  exact ⟨_, rfl, _, _, _, [], _, [], hW', trodAll_mk1 (shut_bool Try.underlying4 _), (trodAll_cons_mk (Below.trod laidOut (by kernel_rfl) (of_decide_eq_true (by kernel_rfl)) h0 bel lt0) (trodAll_cons_mk (Below.trod laidOut (by kernel_rfl) (of_decide_eq_true (by kernel_rfl)) h1 bel lt1) trodAll_mk0)), rfl, bel.frame _, fun h => by cases h⟩

theorem rankPascal_holds : Rows.RankPascalSaid :=
  OpenClaim.holds_of_wide 3 Try.f3 rfl rfl rfl rfl rfl rfl rfl ⟨rfl, rfl, rfl, rfl, rfl⟩ rfl rfl rfl rfl rfl (by kernel_rfl) Try.func3 (by kernel_rfl)
    (of_decide_eq_true (by kernel_rfl)) (by unfold Func.isWrapper; rw [if_neg (of_decide_eq_false (by kernel_rfl))]; exact ⟨rfl, rfl⟩)
    (fun os started H enc _ => rankPascal_lifted os started H enc)

#print axioms rankPascal_holds

end Go.Proofs.Ytencpkmojjbjcab
