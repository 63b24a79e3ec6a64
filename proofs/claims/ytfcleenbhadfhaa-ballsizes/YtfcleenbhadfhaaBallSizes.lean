/-
  For any two numbers: ball.Size tells how many words are no farther: BallSizes returns true for every two numbers, and changes nothing.
-/
import Derived.Test.YtfcleenbhadfhaaOpen
import Derived.Test.YtfcleenbhadfhaaBl
namespace Go.Proofs.Ytfcleenbhadfhaa
open Go.ChangeShapes Go.WideShapes Go.ChangeAt Go.RowKit Go.Deep
set_option linter.unusedVariables false

theorem cb_mer (n r : Int) : cb n r [] = mer n r := by
  unfold cb ce mer
  by_cases c : 0 ≤ n ∧ n ≤ 12
  · rw [if_pos c, if_pos c, if_pos (show ∀ x ∈ ([] : List Nat), x < 2 ^ n.toNat from fun x hx => by cases hx), if_pos rfl]
  · rw [if_neg c, if_neg c, if_neg (by decide)]

theorem ballSizes_walk (n r : Int) (w : World) : Calls Try.prog 5 #[.int .i64 n, .int .i64 r] w fun e w' => e = .returned (.bool true) ∧ Ext w w' := by
  have c2 := bitsAnd_any n r w
  by_cases h : cb n r [] = 0
  · rw [← cb_mer, h] at c2
    obtain ⟨N, K, rfl, rfl, hN, hK, _⟩ := cb_zero h
    have c1 := bsize_good N K hN hK w
    have hM : 2 ^ N ≤ 2 ^ 12 := Nat.pow_le_pow_right (by omega) (by omega)
    have RM : Hid (∀ (k : Nat) W, k ≤ K → Calls Try.prog 16 #[.int .i64 N, .int .i64 k, .int .u32 2147483648] W fun e w' => e = .returned (.int .i64 (ch N k : Nat)) ∧ w' = W) := fun k W hk => by
      have c3 := refMany_any N k 2147483648 (by omega) (by omega) W
      rw [show min 2147483648 (2 ^ N) = 2 ^ N by omega, cnt_all N k (by omega), show ((2147483648 : Nat) : Int) = 2147483648 from rfl] at c3
      exact c3
    have FW : Hid (∀ k, sz N k ≤ 4096) := fun k => by have := sz_few (n := N) (r := k) (by omega); omega
    clear hM h
    go_enter Try.func5, Try.ntmps5
    go_wp2_with fail
    refine c1.mono ?_
    rintro e w1 ⟨rfl, rfl⟩
    clear c1
    go_wp2_with fail
    refine c2.mono ?_
    rintro e w1 ⟨rfl, rfl⟩
    clear c2
    go_wp2
    go_loopg [8, 9] (K + 1) (fun gg s8 s9 wr => ∃ k : Nat, k ≤ K + 1 ∧ K + 1 - k ≤ gg ∧ s8 = .int .i64 (sz N k : Nat) ∧ s9 = .int .i64 k ∧ wr = w1)
    case atStart => exact ⟨0, Nat.zero_le _, by omega, rfl, rfl, rfl⟩
    case round =>
      obtain ⟨k, hk, hg, rfl, rfl, rfl⟩ := hrel
      by_cases hlt : k ≤ K
      · have hltz : (k : Int) ≤ (K : Int) := by omega
        have c1 := RM.out k wr (by omega)
        have f1 := FW.out k
        have f2 := FW.out (k + 1)
        have nx : Hid (sz N (k + 1) = sz N k + ch N k) := rfl
        have nx' : sz N (k + 1) = sz N k + ch N k := rfl
        rw [nx'] at f2
        clear nx'
        generalize sz N k = A at *
        generalize ch N k = B at *
        go_wp2_with fail
        refine c1.mono ?_
        rintro e w2 ⟨rfl, rfl⟩
        clear c1
        go_wp2
        go_roundg (K + 1 - (k + 1))
        case measure => omega
        case rel => exact ⟨k + 1, by omega, by omega, by rw [nx.out]; go_num, by go_num, rfl⟩
      · have hk' : k = K + 1 := by omega
        subst hk'
        have hz : ¬ ((K + 1 : Nat) : Int) ≤ (K : Int) := by omega
        go_wp2
        go_ret
        exact ⟨ret_bool (by simp), Ext.refl _⟩
  · rw [← cb_mer] at c2
    have c1 := bsize_bad n r h w
    have hz : (cb n r [] != 0) = true := by rw [bne_iff_ne]; exact h
    clear h
    generalize cb n r [] = E at *
    go_enter Try.func5, Try.ntmps5
    go_wp2_with fail
    refine c1.mono ?_
    rintro e w' ⟨rfl, rfl⟩
    clear c1
    go_wp2_with fail
    refine c2.mono ?_
    rintro e w' ⟨rfl, rfl⟩
    clear c2
    go_wp2
    go_ret
    exact ⟨ret_bool (by simp), Ext.refl _⟩

set_option maxRecDepth 100000 in
theorem ballSizes_lifted (os : Os) (started : os.Started) (H : Type) (enc : TypeId × Value → H) :
    ReturnsInHanded {} Try.checked os 5 .any (Rows.ballSizesSpec.pre6 enc Try.prog Try.f5 Rows.ballSizesRow.domain false) (Rows.ballSizesSpec.post enc Try.prog Try.f5 false true false false) := by
  refine returnsInHanded_of_change (C := Try.checked) own started (by kernel_rfl) Try.func5
    (ChangeSpec.witness6 (enc := enc) (C := Try.checked) false ⟨#[], #[.int .i64 0, .int .i64 0], []⟩ 8 (by kernel_rfl) (by kernel_rfl) (by kernel_rfl) (by kernel_rfl)) ?_
  intro W base args ds gs before hval0 hW _ _
  have hval : ∀ (j : Nat) t v, Try.f5.params[j]? = some t → args[j]? = some v → Value.okWide Try.prog W .any base t v := hval0
  have hW' := hW
  obtain ⟨p, q, hA0, hV, rfl, hfz, hnd⟩ := hW
  have hA : DataW.TrodAll enc Try.prog W 0 (fun _ => true) true Try.f5.params.toList args.toList ds p := hA0
  rw [Try.params5] at hA hval
  obtain ⟨v0, vs0, d0, ds0, p0, q0, hargs, rfl, rfl, h0, r0⟩ := trodAll_cons hA
  obtain ⟨v1, vs1, d1, ds1, p1, q1, rfl, rfl, rfl, h1, r1⟩ := trodAll_cons r0
  obtain ⟨rfl, rfl, rfl⟩ := trodAll_nil r1
  obtain rfl : args = #[v0, v1] := by cases args; simp_all
  obtain ⟨rfl, rfl⟩ := trodVars_none hV
  have lt0 : ∀ x ∈ p0, x.block < W.heap.size := by obtain ⟨m, hm⟩ := h0; exact DataW.trod_lt m _ _ _ hm
  obtain ⟨x0, rfl, -, -, wf0⟩ := open_int Try.underlying3 (hval 0 3 v0 rfl rfl) h0
  have lt1 : ∀ x ∈ p1, x.block < W.heap.size := by obtain ⟨m, hm⟩ := h1; exact DataW.trod_lt m _ _ _ hm
  obtain ⟨x1, rfl, -, -, wf1⟩ := open_int Try.underlying3 (hval 1 3 v1 rfl rfl) h1
  clear hA0 hval0
  refine (ballSizes_walk x0 x1 W).mono fun e W' ⟨he, bel⟩ => ?_
  subst he
  exact ⟨_, rfl, _, _, _, [], _, [], hW', trodAll_mk1 (shut_bool Try.underlying4 _), (trodAll_cons_mk (Below.trod laidOut (by kernel_rfl) (of_decide_eq_true (by kernel_rfl)) h0 bel lt0) (trodAll_cons_mk (Below.trod laidOut (by kernel_rfl) (of_decide_eq_true (by kernel_rfl)) h1 bel lt1) trodAll_mk0)), rfl, bel.frame _, fun h => by cases h⟩

theorem ballSizes_holds : Rows.BallSizesSaid :=
  OpenClaim.holds_of_wide 5 Try.f5 rfl rfl rfl rfl rfl rfl rfl ⟨rfl, rfl, rfl, rfl, rfl⟩ rfl rfl rfl rfl rfl (by kernel_rfl) Try.func5 (by kernel_rfl)
    (of_decide_eq_true (by kernel_rfl)) (by unfold Func.isWrapper; rw [if_neg (of_decide_eq_false (by kernel_rfl))]; exact ⟨rfl, rfl⟩)
    (fun os started H enc _ => ballSizes_lifted os started H enc)

#print axioms ballSizes_holds

end Go.Proofs.Ytfcleenbhadfhaa
