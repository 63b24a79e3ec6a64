/-
  Conway, Sloane: for any numbers: the sum of two words of a book that grows is one: BookSums returns true for every two numbers and every two places, and changes nothing.
-/
import Derived.Test.YtfcleenbhadfhacOpu
import Derived.Test.YtfcleenbhadfhacBx
namespace Go.Proofs.Ytfcleenbhadfhac
open Go.ChangeShapes Go.WideShapes Go.ChangeAt Go.RowKit Go.Deep
set_option linter.unusedVariables false

theorem bookSums_err (n d : Int) (i j : Nat) (h : ¬ ((0 ≤ n ∧ n ≤ 12) ∧ 1 ≤ d ∧ d ≤ n)) (w : World) : Calls Try.prog 4 #[.int .i64 n, .int .i64 d, .int .u8 (i : Nat), .int .u8 (j : Nat)] w fun e w' => e = .returned (.bool true) ∧ Ext w w' := by
  have c1 := grow_err n d h w
  have c2 : Hid (∀ W, Calls Try.prog 7 #[.int .i64 n] W fun e w' => e = .returned (.bool (decide (0 ≤ n ∧ n ≤ 12))) ∧ w' = W) := fun W => bitsB_any n W
  by_cases h0 : 0 ≤ n ∧ n ≤ 12
  · rw [decide_eq_true h0] at c2
    by_cases h1 : d < 1
    · clear h h0
      go_enter Try.func4, Try.ntmps4
      go_wp2_with fail
      refine c1.mono ?_
      rintro e w1 ⟨⟨E, hE, rfl⟩, E1⟩
      have X1 : Aside (Ext w w1) := E1
      clear c1 E1
      go_wp2_with fail
      refine (c2.out w1).mono ?_
      rintro e w2 ⟨rfl, rfl⟩
      clear c2
      go_wp2
      go_ret
      exact ⟨ret_bool rfl, X1.out⟩
    · have h2 : n < d := by omega
      clear h h0
      go_enter Try.func4, Try.ntmps4
      go_wp2_with fail
      refine c1.mono ?_
      rintro e w1 ⟨⟨E, hE, rfl⟩, E1⟩
      have X1 : Aside (Ext w w1) := E1
      clear c1 E1
      go_wp2_with fail
      refine (c2.out w1).mono ?_
      rintro e w2 ⟨rfl, rfl⟩
      clear c2
      go_wp2
      go_ret
      exact ⟨ret_bool rfl, X1.out⟩
  · rw [decide_eq_false h0] at c2
    clear h h0
    go_enter Try.func4, Try.ntmps4
    go_wp2_with fail
    refine c1.mono ?_
    rintro e w1 ⟨⟨E, hE, rfl⟩, E1⟩
    have X1 : Aside (Ext w w1) := E1
    clear c1 E1
    go_wp2_with fail
    refine (c2.out w1).mono ?_
    rintro e w2 ⟨rfl, rfl⟩
    clear c2
    go_wp2
    go_ret
    exact ⟨ret_bool rfl, X1.out⟩

theorem bookSums_good (n d : Nat) (hn : n ≤ 12) (hd : 1 ≤ d) (hdn : d ≤ n) (i j : Nat) (hi : i < 256) (hj : j < 256) (w : World) : Calls Try.prog 4 #[.int .i64 n, .int .i64 d, .int .u8 (i : Nat), .int .u8 (j : Nat)] w fun e w' => e = .returned (.bool true) ∧ Ext w w' := by
  have c1 := grow_good n d hn hd hdn w
  have c2 : Hid (∀ W, Calls Try.prog 7 #[.int .i64 n] W fun e w' => e = .returned (.bool true) ∧ w' = W) := fun W => by
    have := bitsB_any n W
    rwa [decide_eq_true ⟨by omega, by omega⟩] at this
  have GI : Hid ((gw d (2 ^ n)).length ≤ 64 → Grown n d (gw d (2 ^ n))) := grown_is hn hd
  have hM : 2 ^ n ≤ 2 ^ 12 := Nat.pow_le_pow_right (by omega) hn
  have dz1 : ¬ (d : Int) < 1 := by omega
  have dz2 : ¬ (n : Int) < (d : Int) := by omega
  generalize gw d (2 ^ n) = G at *
  go_enter Try.func4, Try.ntmps4
  go_wp2_with fail
  refine c1.mono ?_
  rintro e w1 (⟨v, h64, rfl, O1⟩ | ⟨h64, rfl, E1⟩)
  · obtain ⟨x, rfl, hz, XU⟩ := O1.us
    have X1 : Aside (Ext w w1) := O1.1
    have GR := GI.out h64
    rw [← hz] at GR
    clear c1 O1 hz h64 GI
    have B := GR.book
    have pos := GR.pos
    have fl := B.few
    have I1 := Nat.mod_lt i pos
    have J1 := Nat.mod_lt j pos
    obtain ⟨k0, hk0, ek0⟩ := GR.sums _ _ I1 J1
    have y1 : x.z.getD (i % x.z.length) 0 < 4294967296 := by have := B.lt I1; omega
    have y2 : x.z.getD (j % x.z.length) 0 < 4294967296 := by have := B.lt J1; omega
    have xo := u32_xor_nat _ _ y1 y2
    have EI : (i : Int) % (x.z.length : Int) = ((i % x.z.length : Nat) : Int) := (Int.natCast_emod _ _).symm
    have EJ : (j : Int) % (x.z.length : Int) = ((j % x.z.length : Nat) : Int) := (Int.natCast_emod _ _).symm
    obtain ⟨a, c, g⟩ := x
    obtain ⟨h1, h2, _, b, o, h4, h5⟩ := XU
    simp only at pos fl I1 J1 hk0 ek0 y1 y2 xo EI EJ h1 h2 h4 h5
    simp only [Um.v] at *
    unfold maxLen at h2
    obtain rfl := h4 pos
    have e1 := h5 _ I1
    have e2 := h5 _ J1
    have H5 : Hid (∀ t, t < g.length → w1.cell? ⟨b, o + t, none⟩ = some (.int .u32 (g.getD t 0 : Nat))) := h5
    have KK : Hid (k0 < g.length ∧ g.getD k0 0 = g.getD (i % g.length) 0 ^^^ g.getD (j % g.length) 0) := ⟨hk0, ek0⟩
    clear h4 h5 GR B hk0 ek0 hM
    generalize g.getD (i % g.length) 0 = Y1 at *
    generalize g.getD (j % g.length) 0 = Y2 at *
    generalize i % g.length = I at *
    generalize j % g.length = J at *
    generalize Y1 ^^^ Y2 = X at *
    generalize g.length = l at *
    have lz : ((l : Int) == 0) = false := by rw [beq_eq_false_iff_ne]; omega
    have Iz : (I : Int) < (l : Int) := by omega
    have Jz : (J : Int) < (l : Int) := by omega
    go_wp2_with fail
    refine (c2.out w1).mono ?_
    rintro e w2 ⟨rfl, rfl⟩
    clear c2
    go_wp2
    go_quiet (fail)
    go_wp2
    have X2 : Aside (Ext w (w2.drewN nq)) := X1.out.drewN nq
    have HC : Hid (∀ t, t < l → (w2.drewN nq).cell? ⟨b, o + t, none⟩ = some (.int .u32 (g.getD t 0 : Nat))) := fun t ht => ((Ext.refl w2).drewN nq).cell (H5.out t ht)
    generalize w2.drewN nq = W2 at *
    clear H5 X1
    go_loopg [13, 60] l (fun gg _ s wr => ∃ k : Nat, k ≤ l ∧ l - k ≤ gg ∧ s = .int .i64 k ∧ Aside (∀ t, t < k → g.getD t 0 ≠ X) ∧ wr = W2)
    case atStart => exact ⟨0, Nat.zero_le _, by omega, rfl, fun t ht => absurd ht (Nat.not_lt_zero _), rfl⟩
    case round =>
      obtain ⟨k, hk, hgg, rfl, A, rfl⟩ := hrel
      by_cases hlt : k < l
      · have hltz : (k : Int) < (l : Int) := by omega
        have e3 := HC.out k hlt
        have go : Aside (g.getD k 0 ≠ X → ∀ t, t < k + 1 → g.getD t 0 ≠ X) := fun h t ht => by
          rcases Nat.lt_succ_iff_lt_or_eq.1 ht with h' | rfl
          · exact A.out t h'
          · exact h
        generalize g.getD k 0 = y at *
        clear HC KK
        by_cases h : y = X
        · have hz : ((y : Int) == (X : Int)) = true := by rw [h]; exact beq_self_eq_true _
          clear go h
          go_wp2
          go_ret
          exact ⟨ret_bool rfl, X2.out⟩
        · have hz : ((y : Int) == (X : Int)) = false := by rw [beq_eq_false_iff_ne]; omega
          have G2 : Aside (∀ t, t < k + 1 → g.getD t 0 ≠ X) := go.out h
          clear go h
          go_wp2
          go_roundg (l - (k + 1))
          case measure => omega
          case rel => exact ⟨k + 1, by omega, by omega, by go_num, G2.out, rfl⟩
      · exact absurd KK.out.2 (A.out k0 (by have := KK.out.1; omega))
  · have X1 : Aside (Ext w w1) := E1
    clear c1 E1 h64 GI
    go_wp2_with fail
    refine (c2.out w1).mono ?_
    rintro e w2 ⟨rfl, rfl⟩
    clear c2
    go_wp2
    go_ret
    exact ⟨ret_bool (by simp), X1.out⟩

theorem bookSums_int (n d i j : Int) (hi : (Lit.int .u8 i).wf = true) (hj : (Lit.int .u8 j).wf = true) (w : World) : Calls Try.prog 4 #[.int .i64 n, .int .i64 d, .int .u8 i, .int .u8 j] w fun e w' => e = .returned (.bool true) ∧ Ext w w' := by
  have h := u8_of hi
  have h' := u8_of hj
  obtain ⟨I, rfl⟩ : ∃ I : Nat, i = I := ⟨i.toNat, by omega⟩
  obtain ⟨J, rfl⟩ : ∃ J : Nat, j = J := ⟨j.toNat, by omega⟩
  by_cases h : (0 ≤ n ∧ n ≤ 12) ∧ 1 ≤ d ∧ d ≤ n
  · obtain ⟨m, rfl⟩ : ∃ m : Nat, n = m := ⟨n.toNat, by omega⟩
    obtain ⟨D, rfl⟩ : ∃ D : Nat, d = D := ⟨d.toNat, by omega⟩
    exact bookSums_good m D (by omega) (by omega) (by omega) I J (by omega) (by omega) w
  · exact bookSums_err n d I J h w

set_option maxRecDepth 100000 in
theorem bookSums_lifted (os : Os) (started : os.Started) (H : Type) (enc : TypeId × Value → H) :
    ReturnsInHanded {} Try.checked os 4 .any (Rows.bookSumsSpec.pre6 enc Try.prog Try.f4 Rows.bookSumsRow.domain false) (Rows.bookSumsSpec.post enc Try.prog Try.f4 false true false false) := by
  refine returnsInHanded_of_change (C := Try.checked) own started (by kernel_rfl) Try.func4
    (ChangeSpec.witness6 (enc := enc) (C := Try.checked) false ⟨#[], #[.int .i64 0, .int .i64 0, .int .u8 0, .int .u8 0], []⟩ 8 (by kernel_rfl) (by kernel_rfl) (by kernel_rfl) (by kernel_rfl)) ?_
  intro W base args ds gs before hval0 hW _ _
  have hval : ∀ (j : Nat) t v, Try.f4.params[j]? = some t → args[j]? = some v → Value.okWide Try.prog W .any base t v := hval0
  have hW' := hW
  obtain ⟨p, q, hA0, hV, rfl, hfz, hnd⟩ := hW
  have hA : DataW.TrodAll enc Try.prog W 0 (fun _ => true) true Try.f4.params.toList args.toList ds p := hA0
  rw [Try.params4] at hA hval
  obtain ⟨v0, vs0, d0, ds0, p0, q0, hargs, rfl, rfl, h0, r0⟩ := trodAll_cons hA
  obtain ⟨v1, vs1, d1, ds1, p1, q1, rfl, rfl, rfl, h1, r1⟩ := trodAll_cons r0
  obtain ⟨v2, vs2, d2, ds2, p2, q2, rfl, rfl, rfl, h2, r2⟩ := trodAll_cons r1
  obtain ⟨v3, vs3, d3, ds3, p3, q3, rfl, rfl, rfl, h3, r3⟩ := trodAll_cons r2
  obtain ⟨rfl, rfl, rfl⟩ := trodAll_nil r3
  obtain rfl : args = #[v0, v1, v2, v3] := by cases args; simp_all
  obtain ⟨rfl, rfl⟩ := trodVars_none hV
  have lt0 : ∀ x ∈ p0, x.block < W.heap.size := by obtain ⟨m, hm⟩ := h0; exact DataW.trod_lt m _ _ _ hm
  obtain ⟨x0, rfl, -, -, wf0⟩ := open_int Try.underlying3 (hval 0 3 v0 rfl rfl) h0
  have lt1 : ∀ x ∈ p1, x.block < W.heap.size := by obtain ⟨m, hm⟩ := h1; exact DataW.trod_lt m _ _ _ hm
  obtain ⟨x1, rfl, -, -, wf1⟩ := open_int Try.underlying3 (hval 1 3 v1 rfl rfl) h1
  have lt2 : ∀ x ∈ p2, x.block < W.heap.size := by obtain ⟨m, hm⟩ := h2; exact DataW.trod_lt m _ _ _ hm
  obtain ⟨x2, rfl, -, -, wf2⟩ := open_int Try.underlying5 (hval 2 5 v2 rfl rfl) h2
  have lt3 : ∀ x ∈ p3, x.block < W.heap.size := by obtain ⟨m, hm⟩ := h3; exact DataW.trod_lt m _ _ _ hm
  obtain ⟨x3, rfl, -, -, wf3⟩ := open_int Try.underlying5 (hval 3 5 v3 rfl rfl) h3
  clear hA0 hval0
  refine (bookSums_int x0 x1 x2 x3 wf2 wf3 W).mono fun e W' ⟨he, bel⟩ => ?_
  subst he
  exact ⟨_, rfl, _, _, _, [], _, [], hW', trodAll_mk1 (shut_bool Try.underlying4 _), (trodAll_cons_mk (Below.trod laidOut (by kernel_rfl) (of_decide_eq_true (by kernel_rfl)) h0 bel lt0) (trodAll_cons_mk (Below.trod laidOut (by kernel_rfl) (of_decide_eq_true (by kernel_rfl)) h1 bel lt1) (trodAll_cons_mk (Below.trod laidOut (by kernel_rfl) (of_decide_eq_true (by kernel_rfl)) h2 bel lt2) (trodAll_cons_mk (Below.trod laidOut (by kernel_rfl) (of_decide_eq_true (by kernel_rfl)) h3 bel lt3) trodAll_mk0)))), rfl, bel.frame _, fun h => by cases h⟩

theorem bookSums_holds : Rows.BookSumsSaid :=
  OpenClaim.holds_of_wide 4 Try.f4 rfl rfl rfl rfl rfl rfl rfl ⟨rfl, rfl, rfl, rfl, rfl⟩ rfl rfl rfl rfl rfl (by kernel_rfl) Try.func4 (by kernel_rfl)
    (of_decide_eq_true (by kernel_rfl)) (by unfold Func.isWrapper; rw [if_neg (of_decide_eq_false (by kernel_rfl))]; exact ⟨rfl, rfl⟩)
    (fun os started H enc _ => bookSums_lifted os started H enc)

#print axioms bookSums_holds

end Go.Proofs.Ytfcleenbhadfhac
