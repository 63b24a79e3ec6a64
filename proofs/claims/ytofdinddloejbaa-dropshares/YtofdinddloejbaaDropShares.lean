/-
  Of any number of bits all words together are those of all sums, and of none are there more than of the sum 0: DropShares returns true for every number, and changes nothing.
-/
import Derived.Test.YtofdinddloejbaaOpen
import Derived.Test.YtofdinddloejbaaWb
import Derived.ProofKit
namespace Go.Proofs.Ytofdinddloejbaa
open Go.ChangeShapes Go.WideShapes Go.ChangeAt Go.RowKit Go.Deep
set_option linter.unusedVariables false

set_option maxRecDepth 100000 in
theorem dropShares_bad (n : Int) (h : n < 0 ∨ 12 < n) (w : World) : Calls Try.prog 7 #[.int .i64 n] w fun e w' => e = .returned (.bool true) ∧ Ext w w' := by
  have c1 := Words_bad1 n 0 (by unfold dce; rw [if_pos h]) w
  have c2 := keepBits_any n w
  rw [decide_eq_false (show ¬ (0 ≤ n ∧ n ≤ 12) by omega)] at c2
  clear h
  go_enter Try.func7, Try.ntmps7
  go_wp2_with fail
  refine c1.mono ?_
  rintro e w1 ⟨rfl, rfl⟩
  clear c1
  go_wp2_with fail
  refine c2.mono ?_
  rintro e w1 ⟨rfl, rfl⟩
  clear c2
  go_wp2
  go_ret
  exact ⟨rfl, Ext.refl _⟩

set_option maxHeartbeats 2000000 in
set_option maxRecDepth 100000 in
theorem dropShares_good (n : Nat) (hn : n ≤ 12) (w : World) : Calls Try.prog 7 #[.int .i64 n] w fun e w' => e = .returned (.bool true) ∧ Ext w w' := by
  have c1 := Words_good n 0 hn (Nat.zero_le _) w
  have c2 : Hid (∀ W, Calls Try.prog 19 #[.int .i64 n] W fun e w' => e = .returned (.bool true) ∧ w' = W) := fun W => by
    have := keepBits_any (n : Int) W
    rw [decide_eq_true (show 0 ≤ (n : Int) ∧ (n : Int) ≤ 12 by omega)] at this
    exact this
  obtain ⟨L, hL⟩ : ∃ L : Nat → Nat, ∀ a, L a = (wl n a).length := ⟨_, fun _ => rfl⟩
  obtain ⟨U, hU⟩ : ∃ U : Nat → Nat, ∀ k, U k = up n k := ⟨_, fun _ => rfl⟩
  have hM : 2 ^ n ≤ 2 ^ 12 := Nat.pow_le_pow_right (by omega) hn
  have C3 : Hid (∀ (a : Nat) W, a ≤ n → Calls Try.prog 11 #[.int .i64 n, .int .i64 a] W fun e w' => ∃ p c, e = .returned (.tuple #[.slice p (L a) c, .int .i64 0]) ∧ Ext W w') := fun a W ha => by
    refine (Words_good n a hn ha W).mono ?_
    rintro e w' ⟨y, rfl, hy, _, E⟩
    exact ⟨y.a, y.c, by rw [Um.v, hy, hL], E⟩
  have HS : Hid (∀ a, a ≤ n → L a ≤ L 0) := fun a ha => by rw [hL, hL]; exact (shares hn).1 a ha
  have HL4 : Hid (∀ a, L a ≤ 4096) := fun a => by
    have := wlk_len n a (2 ^ n)
    rw [hL]
    unfold wl
    omega
  have HU : Hid (∀ k, U (k + 1) = U k + L k) := fun k => by rw [hU, hU, hL]; rfl
  have HUL : Hid (∀ k, U k ≤ 4096 * k) := fun k => by
    induction k with
    | zero => rw [hU]; exact Nat.le_refl 0
    | succ k ih => rw [HU.out]; have := HL4.out k; omega
  have U0 : Hid (U 0 = 0) := by show _ = _; rw [hU]; rfl
  have UN : Hid (U (n + 1) = 2 ^ n) := by show _ = _; rw [hU]; exact (shares hn).2
  have C1 : Hid (Calls Try.prog 11 #[.int .i64 n, .int .i64 0] w fun e w' => ∃ p c, e = .returned (.tuple #[.slice p (L 0) c, .int .i64 0]) ∧ Ext w w') := C3.out 0 w (Nat.zero_le _)
  have PW : Hid (∀ v : Int, v = (2 : Int) ^ n → ((2 ^ n : Nat) : Int) = v) := fun v h => by rw [h, Int.natCast_pow]; rfl
  have hp2 : (2 : Int) ^ n ≤ 4096 := by
    have e : (2 : Int) ^ n = ((2 ^ n : Nat) : Int) := by rw [Int.natCast_pow]; rfl
    rw [e]
    omega
  have hp0 : (0 : Int) ≤ (2 : Int) ^ n := by
    have e : (2 : Int) ^ n = ((2 ^ n : Nat) : Int) := by rw [Int.natCast_pow]; rfl
    rw [e]
    exact Int.natCast_nonneg _
  clear hL hU c1
  go_enter Try.func7, Try.ntmps7
  go_wp2_with fail
  refine C1.out.mono ?_
  rintro e w1 ⟨p, c, rfl, E⟩
  have E1 : Hid (Ext w w1) := E
  clear C1 E
  go_wp2_with fail
  refine (c2.out w1).mono ?_
  rintro e w2 ⟨rfl, rfl⟩
  clear c2
  go_wp2
  go_loopg [5, 6, 7, 8] (n + 1) (fun gg s5 s6 _ _ wr => ∃ k : Nat, k ≤ n + 1 ∧ n + 1 - k ≤ gg ∧ s5 = .int .i64 (U k : Nat) ∧ s6 = .int .i64 k ∧ Aside (Ext w wr))
  case atStart => exact ⟨0, Nat.zero_le _, by omega, by rw [U0.out]; rfl, rfl, E1.out⟩
  case round =>
    obtain ⟨k, hk, hgg, rfl, rfl, E⟩ := hrel
    have hul := HUL.out k
    by_cases hlt : k < n + 1
    · have hltz : (k : Int) ≤ (n : Int) := by omega
      have c4 := C3.out k wr (by omega)
      have hs := HS.out k (by omega)
      have h4 := HL4.out k
      have hu := HU.out k
      have E2 : Hid (Ext w wr) := E.out
      have hsz : ¬ (L 0 : Int) < (L k : Int) := by omega
      clear C3 HS HL4 HU HUL U0 UN PW E1 E
      generalize L k = l at *
      generalize L 0 = l0 at *
      go_wp2_with fail
      refine c4.mono ?_
      rintro e w3 ⟨q, d, rfl, E3⟩
      have E4 : Hid (Ext w w3) := E2.out.trans E3
      clear c4 E3 E2
      go_wp2
      go_roundg (n + 1 - (k + 1))
      case measure => omega
      case rel => exact ⟨k + 1, by omega, by omega, by rw [hu]; go_num, by go_num, E4.out⟩
    · obtain rfl : k = n + 1 := by omega
      have hltz : ¬ ((n + 1 : Nat) : Int) ≤ (n : Int) := by omega
      have un := UN.out
      rw [un]
      have E2 : Hid (Ext w wr) := E.out
      have hpp := PW.out _ rfl
      clear C3 HS HL4 HU HUL U0 UN PW E1 E un
      rw [hpp]
      have hwz : wrap64 ((2 : Int) ^ n) = (2 : Int) ^ n := by
        generalize (2 : Int) ^ n = Z at *
        unfold wrap64
        omega
      go_wp2
      go_ret
      exact ⟨ret_bool (by simp), E2.out⟩

theorem dropShares_walk (n : Int) (w : World) : Calls Try.prog 7 #[.int .i64 n] w fun e w' => e = .returned (.bool true) ∧ Ext w w' := by
  by_cases h : n < 0 ∨ 12 < n
  · exact dropShares_bad n h w
  · obtain ⟨m, rfl⟩ := Int.eq_ofNat_of_zero_le (show 0 ≤ n by omega)
    exact dropShares_good m (by omega) w

set_option maxRecDepth 100000 in
theorem dropShares_lifted (os : Os) (started : os.Started) (H : Type) (enc : TypeId × Value → H) :
    ReturnsInHanded {} Try.checked os 7 .any (Rows.dropSharesSpec.pre6 enc Try.prog Try.f7 Rows.dropSharesRow.domain false) (Rows.dropSharesSpec.post enc Try.prog Try.f7 false true false false) := by
  refine returnsInHanded_of_change (C := Try.checked) own started (by kernel_rfl) Try.func7
    (ChangeSpec.witness6 (enc := enc) (C := Try.checked) false ⟨#[], #[.int .i64 0], []⟩ 8 (by kernel_rfl) (by kernel_rfl) (by kernel_rfl) (by kernel_rfl)) ?_
  intro W base args ds gs before hval0 hW _ _
  have hval : ∀ (j : Nat) t v, Try.f7.params[j]? = some t → args[j]? = some v → Value.okWide Try.prog W .any base t v := hval0
  have hW' := hW
  obtain ⟨p, q, hA0, hV, rfl, hfz, hnd⟩ := hW
  have hA : DataW.TrodAll enc Try.prog W 0 (fun _ => true) true Try.f7.params.toList args.toList ds p := hA0
  rw [Try.params7] at hA hval
  obtain ⟨v0, vs0, d0, ds0, p0, q0, hargs, rfl, rfl, h0, r0⟩ := trodAll_cons hA
  obtain ⟨rfl, rfl, rfl⟩ := trodAll_nil r0
  obtain rfl : args = #[v0] := by cases args; simp_all
  obtain ⟨rfl, rfl⟩ := trodVars_none hV
  have lt0 : ∀ x ∈ p0, x.block < W.heap.size := by obtain ⟨m, hm⟩ := h0; exact DataW.trod_lt m _ _ _ hm
  obtain ⟨x0, rfl, -, -, wf0⟩ := open_int Try.underlying3 (hval 0 3 v0 rfl rfl) h0
  clear hA0 hval0
  refine (dropShares_walk x0 W).mono fun e W' ⟨he, bel⟩ => ?_
  subst he
  exact ⟨_, rfl, _, _, _, [], _, [], hW', trodAll_mk1 (shut_bool Try.underlying4 _), (trodAll_cons_mk (Below.trod laidOut (by kernel_rfl) (of_decide_eq_true (by kernel_rfl)) h0 bel lt0) trodAll_mk0), rfl, bel.frame _, fun h => by cases h⟩

theorem dropShares_holds : Rows.DropSharesSaid :=
  OpenClaim.holds_of_wide 7 Try.f7 rfl rfl rfl rfl rfl rfl rfl ⟨rfl, rfl, rfl, rfl, rfl⟩ rfl rfl rfl rfl rfl (by kernel_rfl) Try.func7 (by kernel_rfl)
    (of_decide_eq_true (by kernel_rfl)) (by unfold Func.isWrapper; rw [if_neg (of_decide_eq_false (by kernel_rfl))]; exact ⟨rfl, rfl⟩)
    (fun os started H enc _ => dropShares_lifted os started H enc)

#print axioms dropShares_holds

end Go.Proofs.Ytofdinddloejbaa
