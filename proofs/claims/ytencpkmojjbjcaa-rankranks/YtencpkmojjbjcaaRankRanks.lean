/-
  For any word: rank.Rank tells which one it is of all with as many set bits: RankRanks returns true for every number and every word, and changes nothing.
-/
import Derived.Test.YtencpkmojjbjcaaOpen
import Derived.Test.YtencpkmojjbjcaaBc
namespace Go.Proofs.Ytencpkmojjbjcaa
open Go.ChangeShapes Go.WideShapes Go.ChangeAt Go.RowKit Go.Deep
set_option linter.unusedVariables false

theorem rankRanks_walk (n : Int) (x : Nat) (hx : x < 4294967296) (w : World) : Calls Try.prog 4 #[.int .i64 n, .int .u32 x] w fun e w' => e = .returned (.bool true) ∧ Ext w w' := by
  have c2 : Hid (∀ W : World, Calls Try.prog 13 #[.int .i64 n, .slice (some ⟨W.heap.size, 0, none⟩) 1 1] (W.alloc (.cells #[.int .u32 x] 27)) fun e w' => e = .returned (.int .i64 (rer n x)) ∧ Ext W w') := fun W => (bitsOne_any n x hx W).mono fun e w' ⟨h1, h2⟩ => ⟨h1, by rw [h2]; exact (Ext.refl W).alloc _⟩
  by_cases hm : rer n x = 0
  · rw [hm] at c2
    obtain ⟨N, rfl, hN, hl⟩ := rer_zero hm
    have c1 := rank_good N x hN hl w
    have hM : 2 ^ N ≤ 2 ^ 12 := Nat.pow_le_pow_right (by omega) (by omega)
    have c3 : Hid (∀ W, Calls Try.prog 14 #[.int .u32 x] W fun e w' => e = .returned (.int .i64 (pop x : Nat)) ∧ w' = W) := fun W => size_any x hx W
    have c4 : Hid (∀ W, Calls Try.prog 11 #[.int .i64 N, .int .i64 (pop x : Nat), .int .u32 x] W fun e w' => e = .returned (.int .i64 (cnt (pop x) x : Nat)) ∧ w' = W) := fun W => by
      have := refMany_any N (pop x) x hN hx W
      rw [show min x (2 ^ N) = x by omega] at this
      exact this
    clear hm hM hl
    generalize cnt (pop x) x = C at *
    generalize pop x = p at *
    go_enter Try.func4, Try.ntmps4
    go_wp2_with fail
    refine c1.mono ?_
    rintro e w1 ⟨rfl, h1⟩
    have E1 : Hid (Ext w w1) := h1
    clear c1 h1
    go_wp2_with fail
    refine (c2.out w1).mono ?_
    rintro e w2 ⟨rfl, h2⟩
    have E2 : Hid (Ext w w2) := E1.out.trans h2
    clear c2 h2
    go_wp2_with fail
    refine (c3.out w2).mono ?_
    rintro e w3 ⟨rfl, rfl⟩
    clear c3
    go_wp2_with fail
    refine (c4.out w3).mono ?_
    rintro e w4 ⟨rfl, rfl⟩
    clear c4
    go_wp2
    go_ret
    exact ⟨ret_bool (by simp), E2.out⟩
  · have c1 := rank_bad n x hx hm w
    have hz : (rer n x != 0) = true := by rw [bne_iff_ne]; exact hm
    clear hm
    generalize rer n x = E at *
    go_enter Try.func4, Try.ntmps4
    go_wp2_with fail
    refine c1.mono ?_
    rintro e w1 ⟨rfl, rfl⟩
    clear c1
    go_wp2_with fail
    refine (c2.out w1).mono ?_
    rintro e w2 ⟨rfl, h2⟩
    have E2 : Hid (Ext w1 w2) := h2
    clear c2 h2
    go_wp2
    go_ret
    exact ⟨ret_bool (by simp), E2.out⟩

theorem rankRanks_int (n x : Int) (hq : (Lit.int .u32 x).wf = true) (w : World) : Calls Try.prog 4 #[.int .i64 n, .int .u32 x] w fun e w' => e = .returned (.bool true) ∧ Ext w w' := by
  have h := u32_in hq
  obtain ⟨X, rfl⟩ : ∃ X : Nat, x = X := ⟨x.toNat, by omega⟩
  exact rankRanks_walk n X (by omega) w

set_option maxRecDepth 100000 in
theorem rankRanks_lifted (os : Os) (started : os.Started) (H : Type) (enc : TypeId × Value → H) :
    ReturnsInHanded {} Try.checked os 4 .any (Rows.rankRanksSpec.pre6 enc Try.prog Try.f4 Rows.rankRanksRow.domain false) (Rows.rankRanksSpec.post enc Try.prog Try.f4 false true false false) := by
  refine returnsInHanded_of_change (C := Try.checked) own started (by kernel_rfl) Try.func4
    (ChangeSpec.witness6 (enc := enc) (C := Try.checked) false ⟨#[], #[.int .i64 0, .int .u32 0], []⟩ 8 (by kernel_rfl) (by kernel_rfl) (by kernel_rfl) (by kernel_rfl)) ?_
  intro W base args ds gs before hval0 hW _ _
  have hval : ∀ (j : Nat) t v, Try.f4.params[j]? = some t → args[j]? = some v → Value.okWide Try.prog W .any base t v := hval0
  have hW' := hW
  obtain ⟨p, q, hA0, hV, rfl, hfz, hnd⟩ := hW
  have hA : DataW.TrodAll enc Try.prog W 0 (fun _ => true) true Try.f4.params.toList args.toList ds p := hA0
  rw [Try.params4] at hA hval
  obtain ⟨v0, vs0, d0, ds0, p0, q0, hargs, rfl, rfl, h0, r0⟩ := trodAll_cons hA
  obtain ⟨v1, vs1, d1, ds1, p1, q1, rfl, rfl, rfl, h1, r1⟩ := trodAll_cons r0
  obtain ⟨rfl, rfl, rfl⟩ := trodAll_nil r1
  obtain rfl : args = #[v0, v1] := by cases args; simp_all
  obtain ⟨rfl, rfl⟩ := trodVars_none hV
  have lt0 : ∀ x ∈ p0, x.block < W.heap.size := by obtain ⟨m, hm⟩ := h0; exact DataW.trod_lt m _ _ _ hm
  obtain ⟨x0, rfl, -, -, wf0⟩ := open_int Try.underlying3 (hval 0 3 v0 rfl rfl) h0
  have lt1 : ∀ x ∈ p1, x.block < W.heap.size := by obtain ⟨m, hm⟩ := h1; exact DataW.trod_lt m _ _ _ hm
  obtain ⟨x1, rfl, -, -, wf1⟩ := open_int Try.underlying27 (hval 1 27 v1 rfl rfl) h1
  clear hA0 hval0
  refine (rankRanks_int x0 x1 wf1 W).mono fun e W' ⟨he, bel⟩ => ?_
  subst he
  exact ⟨_, rfl, _, _, _, [], _, [], hW', trodAll_mk1 (shut_bool Try.underlying4 _), (trodAll_cons_mk (Below.trod laidOut (by kernel_rfl) (of_decide_eq_true (by kernel_rfl)) h0 bel lt0) (trodAll_cons_mk (Below.trod laidOut (by kernel_rfl) (of_decide_eq_true (by kernel_rfl)) h1 bel lt1) trodAll_mk0)), rfl, bel.frame _, fun h => by cases h⟩

theorem rankRanks_holds : Rows.RankRanksSaid :=
  OpenClaim.holds_of_wide 4 Try.f4 rfl rfl rfl rfl rfl rfl rfl ⟨rfl, rfl, rfl, rfl, rfl⟩ rfl rfl rfl rfl rfl (by kernel_rfl) Try.func4 (by kernel_rfl)
    (of_decide_eq_true (by kernel_rfl)) (by unfold Func.isWrapper; rw [if_neg (of_decide_eq_false (by kernel_rfl))]; exact ⟨rfl, rfl⟩)
    (fun os started H enc _ => rankRanks_lifted os started H enc)

#print axioms rankRanks_holds

end Go.Proofs.Ytencpkmojjbjcaa
