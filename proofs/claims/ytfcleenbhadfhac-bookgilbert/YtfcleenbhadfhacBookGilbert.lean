/-
  Gilbert, Varshamov: for any numbers: a book that grows has as many words at least as balls of one less go into all; its words are as far apart as they should be; and no word can be put to it: BookGilbert returns true for every two numbers and every word, and changes nothing.
-/
import Derived.Test.YtfcleenbhadfhacOpu
import Derived.Test.YtfcleenbhadfhacBx
namespace Go.Proofs.Ytfcleenbhadfhac
open Go.ChangeShapes Go.WideShapes Go.ChangeAt Go.RowKit Go.Deep
set_option linter.unusedVariables false

theorem bookGilbert_err (n d : Int) (q : Nat) (h : ¬ ((0 ≤ n ∧ n ≤ 12) ∧ 1 ≤ d ∧ d ≤ n)) (w : World) : Calls Try.prog 3 #[.int .i64 n, .int .i64 d, .int .u32 (q : Nat)] w fun e w' => e = .returned (.bool true) ∧ Ext w w' := by
  have c1 := grow_err n d h w
  have c2 : Hid (∀ W, Calls Try.prog 7 #[.int .i64 n] W fun e w' => e = .returned (.bool (decide (0 ≤ n ∧ n ≤ 12))) ∧ w' = W) := fun W => bitsB_any n W
  by_cases h0 : 0 ≤ n ∧ n ≤ 12
  · rw [decide_eq_true h0] at c2
    by_cases h1 : d < 1
    · clear h h0
      go_enter Try.func3, Try.ntmps3
      go_wp2_with fail
      refine c1.mono ?_
      rintro e w1 ⟨⟨E, hE, rfl⟩, E1⟩
      have X1 : Aside (Ext w w1) := E1
      clear c1 E1
      go_wp2_with fail
      refine (c2.out w1).mono ?_
      rintro e w2 ⟨rfl, rfl⟩
      clear c2
      go_wp2
      go_ret
      exact ⟨ret_bool rfl, X1.out⟩
    · have h2 : n < d := by omega
      clear h h0
      go_enter Try.func3, Try.ntmps3
      go_wp2_with fail
      refine c1.mono ?_
      rintro e w1 ⟨⟨E, hE, rfl⟩, E1⟩
      have X1 : Aside (Ext w w1) := E1
      clear c1 E1
      go_wp2_with fail
      refine (c2.out w1).mono ?_
      rintro e w2 ⟨rfl, rfl⟩
      clear c2
      go_wp2
      go_ret
      exact ⟨ret_bool rfl, X1.out⟩
  · rw [decide_eq_false h0] at c2
    clear h h0
    go_enter Try.func3, Try.ntmps3
    go_wp2_with fail
    refine c1.mono ?_
    rintro e w1 ⟨⟨E, hE, rfl⟩, E1⟩
    have X1 : Aside (Ext w w1) := E1
    clear c1 E1
    go_wp2_with fail
    refine (c2.out w1).mono ?_
    rintro e w2 ⟨rfl, rfl⟩
    clear c2
    go_wp2
    go_ret
    exact ⟨ret_bool rfl, X1.out⟩

theorem bookGilbert_good (n d : Nat) (hn : n ≤ 12) (hd : 1 ≤ d) (hdn : d ≤ n) (q : Nat) (hq : q < 4294967296) (w : World) : Calls Try.prog 3 #[.int .i64 n, .int .i64 d, .int .u32 (q : Nat)] w fun e w' => e = .returned (.bool true) ∧ Ext w w' := by
  have c1 := grow_good n d hn hd hdn w
  have c2 : Hid (∀ W, Calls Try.prog 7 #[.int .i64 n] W fun e w' => e = .returned (.bool true) ∧ w' = W) := fun W => by
    have := bitsB_any n W
    rwa [decide_eq_true ⟨by omega, by omega⟩] at this
  have GI : Hid ((gw d (2 ^ n)).length ≤ 64 → Grown n d (gw d (2 ^ n))) := grown_is hn hd
  have c3 : Hid (∀ W, Calls Try.prog 8 #[.int .i64 n, .int .i64 ((d : Int) - 1)] W fun e w' => e = .returned (.tuple #[.int .i64 (sz n d : Nat), .int .i64 0]) ∧ w' = W) := fun W => by
    have := bsize_good n (d - 1) hn (by omega) W
    rw [show d - 1 + 1 = d by omega, show ((d - 1 : Nat) : Int) = (d : Int) - 1 by omega] at this
    exact this
  have few2 := sz_few (n := n) (r := d) (by omega)
  have hM : 2 ^ n ≤ 2 ^ 12 := Nat.pow_le_pow_right (by omega) hn
  have c5 : Hid (∀ W : World, Calls Try.prog 10 #[.int .i64 n, .slice (some ⟨W.heap.size, 0, none⟩) 1 1] (W.alloc (.cells #[.int .u32 (q : Nat)] 22)) fun e w' => e = .returned (.bool (ce n [q] == 0)) ∧ Ext W w') := fun W => belowOne_any n q hq W
  have dz1 : ¬ (d : Int) < 1 := by omega
  have dz2 : ¬ (n : Int) < (d : Int) := by omega
  generalize gw d (2 ^ n) = G at *
  go_enter Try.func3, Try.ntmps3
  go_wp2_with fail
  refine c1.mono ?_
  rintro e w1 (⟨v, h64, rfl, O1⟩ | ⟨h64, rfl, E1⟩)
  · obtain ⟨x, rfl, hz, XU⟩ := O1.us
    have X1 : Aside (Ext w w1) := O1.1
    have GR := GI.out h64
    rw [← hz] at GR
    clear c1 O1 hz h64 GI
    have B := GR.book
    have many := GR.many
    have pos := GR.pos
    have fl := B.few
    have hb : ∀ y ∈ x.z, y < 4294967296 := fun y hy => by have := B.low y hy; omega
    have wp : Hid (¬ ((x.z.length * sz n d : Nat) : Int) < wrap64 ((2 : Int) ^ n)) := by
      show ¬ _
      rw [wrap_pow hn]
      omega
    have prod : (x.z.length : Int) * (sz n d : Int) = ((x.z.length * sz n d : Nat) : Int) := (Int.natCast_mul _ _).symm
    have pl : x.z.length * sz n d ≤ 64 * 4096 := Nat.mul_le_mul fl (by omega)
    have PL : Hid (((x.z.length * sz n d : Nat) : Int) ≤ 262144) := by show _ ≤ _; omega
    have cbel : ce n [q] = 0 → q < 2 ^ n := fun h => by
      obtain ⟨m, e, _, hg⟩ := ce_zero h
      obtain rfl : n = m := by omega
      exact hg q (by simp)
    by_cases h1 : 2 ≤ x.z.length
    · have c4 := least_good n x w1 XU B h1
      have ap := GR.apart h1
      have ap32 := lst_le n x.z (x.z.length - 1)
      have apz : ¬ ((lst n x.z (x.z.length - 1) : Nat) : Int) < (d : Int) := by omega
      have lz : (x.z.length : Int) > 1 := by omega
      by_cases hb2 : ce n [q] = 0
      · have c6 : Hid (∀ W, Ext w1 W → Calls Try.prog 11 #[.int .i64 n, x.v, .int .u32 (q : Nat)] W fun e w' => e = .returned (.tuple #[.int .i64 (bst x.z q x.z.length : Nat), .int .i64 (far (x.z.getD (bst x.z q x.z.length) 0) q : Nat), .int .i64 0]) ∧ Ext W w') := fun W E => near_good n x q W (XU.ext E) B (cbel hb2) pos
        have fu := GR.full q (cbel hb2)
        have bl := bst_lt x.z q x.z.length pos
        rw [hb2] at c5
        clear GR B XU hb cbel hb2 many few2 hM pl
        generalize far (x.z.getD (bst x.z q x.z.length) 0) q = F at *
        generalize bst x.z q x.z.length = P at *
        generalize lst n x.z (x.z.length - 1) = D at *
        obtain ⟨a, c, g⟩ := x
        simp only [Um.v] at *
        generalize g.length = l at *
        generalize sz n d = Z at *
        generalize hP : l * Z = P2 at *
        clear hP
        have PL' := PL.out
        have wpz := wp.out
        clear PL wp
        have fz : (F : Int) < (d : Int) := by omega
        have bz : (P : Int) < (l : Int) := by omega
        go_wp2_with fail
        refine (c2.out w1).mono ?_
        rintro e w2 ⟨rfl, rfl⟩
        clear c2
        go_wp2_with fail
        refine (c3.out w2).mono ?_
        rintro e w3 ⟨rfl, rfl⟩
        clear c3
        go_wp2_with fail
        refine c4.mono ?_
        rintro e w4 ⟨rfl, E4⟩
        have X4 : Aside (Ext w3 w4) := E4
        clear c4 E4
        go_wp2_with fail
        refine (c5.out w4).mono ?_
        rintro e w5 ⟨rfl, E5⟩
        have X5 : Aside (Ext w3 w5) := X4.out.trans E5
        clear c5 E5
        have c6' := c6.out w5 X5.out
        clear c6
        go_wp2_with fail
        refine c6'.mono ?_
        rintro e w6 ⟨rfl, E6⟩
        have X6 : Aside (Ext w w6) := X1.out.trans (X5.out.trans E6)
        clear c6' E6
        go_wp2
        go_ret
        exact ⟨ret_bool (by simp), X6.out⟩
      · rw [show (ce n [q] == 0) = false by rw [beq_eq_false_iff_ne]; exact hb2] at c5
        clear GR B XU hb cbel hb2 many few2 hM pl
        generalize lst n x.z (x.z.length - 1) = D at *
        obtain ⟨a, c, g⟩ := x
        simp only [Um.v] at *
        generalize g.length = l at *
        generalize sz n d = Z at *
        generalize hP : l * Z = P2 at *
        clear hP
        have PL' := PL.out
        have wpz := wp.out
        clear PL wp
        go_wp2_with fail
        refine (c2.out w1).mono ?_
        rintro e w2 ⟨rfl, rfl⟩
        clear c2
        go_wp2_with fail
        refine (c3.out w2).mono ?_
        rintro e w3 ⟨rfl, rfl⟩
        clear c3
        go_wp2_with fail
        refine c4.mono ?_
        rintro e w4 ⟨rfl, E4⟩
        have X4 : Aside (Ext w3 w4) := E4
        clear c4 E4
        go_wp2_with fail
        refine (c5.out w4).mono ?_
        rintro e w5 ⟨rfl, E5⟩
        have X5 : Aside (Ext w3 w5) := X4.out.trans E5
        clear c5 E5
        have X6 : Aside (Ext w w5) := X1.out.trans X5.out
        go_wp2
        go_ret
        exact ⟨ret_bool (by simp), X6.out⟩
    · have c4 := least_none n x hb w1 XU B.told (by omega)
      have lz : ¬ (x.z.length : Int) > 1 := by omega
      by_cases hb2 : ce n [q] = 0
      · have c6 : Hid (∀ W, Ext w1 W → Calls Try.prog 11 #[.int .i64 n, x.v, .int .u32 (q : Nat)] W fun e w' => e = .returned (.tuple #[.int .i64 (bst x.z q x.z.length : Nat), .int .i64 (far (x.z.getD (bst x.z q x.z.length) 0) q : Nat), .int .i64 0]) ∧ Ext W w') := fun W E => near_good n x q W (XU.ext E) B (cbel hb2) pos
        have fu := GR.full q (cbel hb2)
        have bl := bst_lt x.z q x.z.length pos
        rw [hb2] at c5
        clear GR B XU hb cbel hb2 many few2 hM pl
        generalize far (x.z.getD (bst x.z q x.z.length) 0) q = F at *
        generalize bst x.z q x.z.length = P at *
        obtain ⟨a, c, g⟩ := x
        simp only [Um.v] at *
        generalize g.length = l at *
        generalize sz n d = Z at *
        generalize hP : l * Z = P2 at *
        clear hP
        have PL' := PL.out
        have wpz := wp.out
        clear PL wp
        have fz : (F : Int) < (d : Int) := by omega
        have bz : (P : Int) < (l : Int) := by omega
        go_wp2_with fail
        refine (c2.out w1).mono ?_
        rintro e w2 ⟨rfl, rfl⟩
        clear c2
        go_wp2_with fail
        refine (c3.out w2).mono ?_
        rintro e w3 ⟨rfl, rfl⟩
        clear c3
        go_wp2_with fail
        refine c4.mono ?_
        rintro e w4 ⟨rfl, E4⟩
        have X4 : Aside (Ext w3 w4) := E4
        clear c4 E4
        go_wp2_with fail
        refine (c5.out w4).mono ?_
        rintro e w5 ⟨rfl, E5⟩
        have X5 : Aside (Ext w3 w5) := X4.out.trans E5
        clear c5 E5
        have c6' := c6.out w5 X5.out
        clear c6
        go_wp2_with fail
        refine c6'.mono ?_
        rintro e w6 ⟨rfl, E6⟩
        have X6 : Aside (Ext w w6) := X1.out.trans (X5.out.trans E6)
        clear c6' E6
        go_wp2
        go_ret
        exact ⟨ret_bool (by simp), X6.out⟩
      · rw [show (ce n [q] == 0) = false by rw [beq_eq_false_iff_ne]; exact hb2] at c5
        clear GR B XU hb cbel hb2 many few2 hM pl
        obtain ⟨a, c, g⟩ := x
        simp only [Um.v] at *
        generalize g.length = l at *
        generalize sz n d = Z at *
        generalize hP : l * Z = P2 at *
        clear hP
        have PL' := PL.out
        have wpz := wp.out
        clear PL wp
        go_wp2_with fail
        refine (c2.out w1).mono ?_
        rintro e w2 ⟨rfl, rfl⟩
        clear c2
        go_wp2_with fail
        refine (c3.out w2).mono ?_
        rintro e w3 ⟨rfl, rfl⟩
        clear c3
        go_wp2_with fail
        refine c4.mono ?_
        rintro e w4 ⟨rfl, E4⟩
        have X4 : Aside (Ext w3 w4) := E4
        clear c4 E4
        go_wp2_with fail
        refine (c5.out w4).mono ?_
        rintro e w5 ⟨rfl, E5⟩
        have X5 : Aside (Ext w3 w5) := X4.out.trans E5
        clear c5 E5
        have X6 : Aside (Ext w w5) := X1.out.trans X5.out
        go_wp2
        go_ret
        exact ⟨ret_bool (by simp), X6.out⟩
  · have X1 : Aside (Ext w w1) := E1
    clear c1 E1 h64 GI
    go_wp2_with fail
    refine (c2.out w1).mono ?_
    rintro e w2 ⟨rfl, rfl⟩
    clear c2
    go_wp2
    go_ret
    exact ⟨ret_bool (by simp), X1.out⟩

theorem bookGilbert_int (n d q : Int) (hq : (Lit.int .u32 q).wf = true) (w : World) : Calls Try.prog 3 #[.int .i64 n, .int .i64 d, .int .u32 q] w fun e w' => e = .returned (.bool true) ∧ Ext w w' := by
  have h := u32_of hq
  obtain ⟨Q, rfl⟩ : ∃ Q : Nat, q = Q := ⟨q.toNat, by omega⟩
  by_cases h : (0 ≤ n ∧ n ≤ 12) ∧ 1 ≤ d ∧ d ≤ n
  · obtain ⟨m, rfl⟩ : ∃ m : Nat, n = m := ⟨n.toNat, by omega⟩
    obtain ⟨D, rfl⟩ : ∃ D : Nat, d = D := ⟨d.toNat, by omega⟩
    exact bookGilbert_good m D (by omega) (by omega) (by omega) Q (by omega) w
  · exact bookGilbert_err n d Q h w

set_option maxRecDepth 100000 in
theorem bookGilbert_lifted (os : Os) (started : os.Started) (H : Type) (enc : TypeId × Value → H) :
    ReturnsInHanded {} Try.checked os 3 .any (Rows.bookGilbertSpec.pre6 enc Try.prog Try.f3 Rows.bookGilbertRow.domain false) (Rows.bookGilbertSpec.post enc Try.prog Try.f3 false true false false) := by
  refine returnsInHanded_of_change (C := Try.checked) own started (by kernel_rfl) Try.func3
    (ChangeSpec.witness6 (enc := enc) (C := Try.checked) false ⟨#[], #[.int .i64 0, .int .i64 0, .int .u32 0], []⟩ 8 (by kernel_rfl) (by kernel_rfl) (by kernel_rfl) (by kernel_rfl)) ?_
  intro W base args ds gs before hval0 hW _ _
  have hval : ∀ (j : Nat) t v, Try.f3.params[j]? = some t → args[j]? = some v → Value.okWide Try.prog W .any base t v := hval0
  have hW' := hW
  obtain ⟨p, q, hA0, hV, rfl, hfz, hnd⟩ := hW
  have hA : DataW.TrodAll enc Try.prog W 0 (fun _ => true) true Try.f3.params.toList args.toList ds p := hA0
  rw [Try.params3] at hA hval
  obtain ⟨v0, vs0, d0, ds0, p0, q0, hargs, rfl, rfl, h0, r0⟩ := trodAll_cons hA
  obtain ⟨v1, vs1, d1, ds1, p1, q1, rfl, rfl, rfl, h1, r1⟩ := trodAll_cons r0
  obtain ⟨v2, vs2, d2, ds2, p2, q2, rfl, rfl, rfl, h2, r2⟩ := trodAll_cons r1
  obtain ⟨rfl, rfl, rfl⟩ := trodAll_nil r2
  obtain rfl : args = #[v0, v1, v2] := by cases args; simp_all
  obtain ⟨rfl, rfl⟩ := trodVars_none hV
  have lt0 : ∀ x ∈ p0, x.block < W.heap.size := by obtain ⟨m, hm⟩ := h0; exact DataW.trod_lt m _ _ _ hm
  obtain ⟨x0, rfl, -, -, wf0⟩ := open_int Try.underlying3 (hval 0 3 v0 rfl rfl) h0
  have lt1 : ∀ x ∈ p1, x.block < W.heap.size := by obtain ⟨m, hm⟩ := h1; exact DataW.trod_lt m _ _ _ hm
  obtain ⟨x1, rfl, -, -, wf1⟩ := open_int Try.underlying3 (hval 1 3 v1 rfl rfl) h1
  have lt2 : ∀ x ∈ p2, x.block < W.heap.size := by obtain ⟨m, hm⟩ := h2; exact DataW.trod_lt m _ _ _ hm
  obtain ⟨x2, rfl, -, -, wf2⟩ := open_int Try.underlying22 (hval 2 22 v2 rfl rfl) h2
  clear hA0 hval0
  refine (bookGilbert_int x0 x1 x2 wf2 W).mono fun e W' ⟨he, bel⟩ => ?_
  subst he
  exact ⟨_, rfl, _, _, _, [], _, [], hW', trodAll_mk1 (shut_bool Try.underlying4 _), (trodAll_cons_mk (Below.trod laidOut (by kernel_rfl) (of_decide_eq_true (by kernel_rfl)) h0 bel lt0) (trodAll_cons_mk (Below.trod laidOut (by kernel_rfl) (of_decide_eq_true (by kernel_rfl)) h1 bel lt1) (trodAll_cons_mk (Below.trod laidOut (by kernel_rfl) (of_decide_eq_true (by kernel_rfl)) h2 bel lt2) trodAll_mk0))), rfl, bel.frame _, fun h => by cases h⟩

theorem bookGilbert_holds : Rows.BookGilbertSaid :=
  OpenClaim.holds_of_wide 3 Try.f3 rfl rfl rfl rfl rfl rfl rfl ⟨rfl, rfl, rfl, rfl, rfl⟩ rfl rfl rfl rfl rfl (by kernel_rfl) Try.func3 (by kernel_rfl)
    (of_decide_eq_true (by kernel_rfl)) (by unfold Func.isWrapper; rw [if_neg (of_decide_eq_false (by kernel_rfl))]; exact ⟨rfl, rfl⟩)
    (fun os started H enc _ => bookGilbert_lifted os started H enc)

#print axioms bookGilbert_holds

end Go.Proofs.Ytfcleenbhadfhac
