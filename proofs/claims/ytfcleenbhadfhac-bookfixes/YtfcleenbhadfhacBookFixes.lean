/-
  Hamming: for any book and any of its words that is turned at less than half of the distance: it is the nearest one: BookFixes returns true for every number, every list of words, every place and every word, and changes nothing.
-/
import Derived.Test.YtfcleenbhadfhacOpu
import Derived.Test.YtfcleenbhadfhacBx
namespace Go.Proofs.Ytfcleenbhadfhac
open Go.ChangeShapes Go.WideShapes Go.ChangeAt Go.RowKit Go.Deep
set_option linter.unusedVariables false

theorem bst_fix {d t i : Nat} {g : List Nat} (F : Far d g) (hi : i < g.length) (h : 2 * pop t < d) : bst g (g.getD i 0 ^^^ t) g.length = i ∧ far (g.getD i 0) (g.getD i 0 ^^^ t) = pop t := by
  have e : far (g.getD i 0) (g.getD i 0 ^^^ t) = pop t := by
    unfold far
    rw [← Nat.xor_assoc, Nat.xor_self, Nat.zero_xor]
  refine ⟨?_, e⟩
  have l1 := bst_lt g (g.getD i 0 ^^^ t) g.length (by omega)
  have l2 := bst_le g (g.getD i 0 ^^^ t) g.length i hi
  generalize bst g (g.getD i 0 ^^^ t) g.length = j at *
  apply Classical.byContradiction
  intro hne
  have f := F.ne hi l1 (fun e => hne e.symm)
  have tr := far_tri (g.getD i 0) (g.getD i 0 ^^^ t) (g.getD j 0)
  rw [far_comm (g.getD i 0 ^^^ t) (g.getD j 0)] at tr
  omega

theorem bookFixes_err (n : Int) (x : Um) (hb : ∀ y ∈ x.z, y < 4294967296) (k t : Nat) (hk : k < 256) (ht : t < 4294967296) (w : World) (hx : Us w x) (h : bke n x.z ≠ 0 ∨ x.z.length < 2) : Calls Try.prog 5 #[.int .i64 n, x.v, .int .u8 (k : Nat), .int .u32 (t : Nat)] w fun e w' => e = .returned (.bool true) ∧ Ext w w' := by
  have c1 := least_err n x hb w hx h
  have hml : x.z.length ≤ maxLen := Nat.le_trans hx.1 hx.2.1
  unfold maxLen at hml
  by_cases h0 : bke n x.z = 0
  · have c2 : Hid (∀ W, Ext w W → Calls Try.prog 12 #[.int .i64 n, x.v] W fun e w' => e = .returned (.bool true) ∧ w' = W) := fun W E => by
      have := booked_any n x hb W (hx.ext E)
      rw [h0] at this
      exact this
    have hl : x.z.length < 2 := h.resolve_left (fun h => h h0)
    clear h h0 hx hb
    obtain ⟨a, c, g⟩ := x
    simp only [Um.v] at *
    generalize g.length = l at *
    have lz : (l : Int) < 2 := by omega
    go_enter Try.func5, Try.ntmps5
    go_wp2_with fail
    refine c1.mono ?_
    rintro e w1 ⟨⟨E, hE, rfl⟩, E1⟩
    have X1 : Aside (Ext w w1) := E1
    have c2' := c2.out w1 E1
    clear c1 c2 E1
    go_wp2_with fail
    refine c2'.mono ?_
    rintro e w2 ⟨rfl, rfl⟩
    clear c2'
    go_wp2
    go_ret
    exact ⟨ret_bool rfl, X1.out⟩
  · have c2 : Hid (∀ W, Ext w W → Calls Try.prog 12 #[.int .i64 n, x.v] W fun e w' => e = .returned (.bool false) ∧ w' = W) := fun W E => by
      have := booked_any n x hb W (hx.ext E)
      rw [show (bke n x.z == 0) = false by rw [beq_eq_false_iff_ne]; exact h0] at this
      exact this
    clear h h0 hx hb
    obtain ⟨a, c, g⟩ := x
    simp only [Um.v] at *
    generalize g.length = l at *
    go_enter Try.func5, Try.ntmps5
    go_wp2_with fail
    refine c1.mono ?_
    rintro e w1 ⟨⟨E, hE, rfl⟩, E1⟩
    have X1 : Aside (Ext w w1) := E1
    have c2' := c2.out w1 E1
    clear c1 c2 E1
    go_wp2_with fail
    refine c2'.mono ?_
    rintro e w2 ⟨rfl, rfl⟩
    clear c2'
    go_wp2
    go_ret
    exact ⟨ret_bool rfl, X1.out⟩

theorem bookFixes_good (n : Nat) (x : Um) (hb : ∀ y ∈ x.z, y < 4294967296) (k t : Nat) (hk : k < 256) (ht : t < 4294967296) (w : World) (hx : Us w x) (B : Book n x.z) (h2 : 2 ≤ x.z.length) : Calls Try.prog 5 #[.int .i64 n, x.v, .int .u8 (k : Nat), .int .u32 (t : Nat)] w fun e w' => e = .returned (.bool true) ∧ Ext w w' := by
  have c1 := least_good n x w hx B h2
  have c2 : Hid (∀ W, Ext w W → Calls Try.prog 12 #[.int .i64 n, x.v] W fun e w' => e = .returned (.bool true) ∧ w' = W) := fun W E => by
    have := booked_any n x hb W (hx.ext E)
    rw [B.told] at this
    exact this
  have c3 : Hid (∀ W : World, Calls Try.prog 10 #[.int .i64 n, .slice (some ⟨W.heap.size, 0, none⟩) 1 1] (W.alloc (.cells #[.int .u32 (t : Nat)] 22)) fun e w' => e = .returned (.bool (ce n [t] == 0)) ∧ Ext W w') := fun W => belowOne_any n t ht W
  have c4 : Hid (∀ W, Calls Try.prog 13 #[.int .u32 (t : Nat)] W fun e w' => e = .returned (.int .i64 (pop t : Nat)) ∧ w' = W) := fun W => size_any t ht W
  have few := B.few
  have hn := B.bits
  have hM : 2 ^ n ≤ 2 ^ 12 := Nat.pow_le_pow_right (by omega) hn
  have d1 := B.pos h2
  have d2 := lst_le n x.z (x.z.length - 1)
  have F := book_far (n := n) (g := x.z)
  have I1 := Nat.mod_lt k (show 0 < x.z.length by omega)
  have EI : (k : Int) % (x.z.length : Int) = ((k % x.z.length : Nat) : Int) := (Int.natCast_emod _ _).symm
  have p32 : pop t ≤ 32 := popN_le 32 t
  by_cases hc : ce n [t] = 0
  · have ht' : t < 2 ^ n := by
      obtain ⟨m, e, _, hg⟩ := ce_zero hc
      obtain rfl : n = m := by omega
      exact hg t (by simp)
    rw [hc] at c3
    by_cases hd : 2 * pop t < lst n x.z (x.z.length - 1)
    · obtain ⟨fx, fy⟩ := bst_fix F I1 hd
      have yl := B.lt I1
      have c5 : Hid (∀ W, Ext w W → Calls Try.prog 11 #[.int .i64 n, x.v, .int .u32 (x.z.getD (k % x.z.length) 0 ^^^ t : Nat)] W fun e w' => e = .returned (.tuple #[.int .i64 (k % x.z.length : Nat), .int .i64 (pop t : Nat), .int .i64 0]) ∧ Ext W w') := fun W E => by
        have := near_good n x (x.z.getD (k % x.z.length) 0 ^^^ t) W (hx.ext E) B (Nat.xor_lt_two_pow yl ht') (by omega)
        rw [fx, fy] at this
        exact this
      have xo := u32_xor_nat (x.z.getD (k % x.z.length) 0) t (by omega) ht
      obtain ⟨h1, h2', _, b, o, h4, h5⟩ := hx
      have e1 : Hid (∀ W, Ext w W → W.cell? ⟨b, o + k % x.z.length, none⟩ = some (.int .u32 (x.z.getD (k % x.z.length) 0 : Nat))) := fun W E => E.cell (h5 _ I1)
      have ha := h4 (by omega)
      clear hb B F fx fy yl hM h4 h5
      generalize x.z.getD (k % x.z.length) 0 ^^^ t = X at *
      generalize x.z.getD (k % x.z.length) 0 = Y at *
      generalize k % x.z.length = I at *
      generalize lst n x.z (x.z.length - 1) = D at *
      generalize pop t = P at *
      obtain ⟨a, c, g⟩ := x
      simp only [Um.v] at *
      generalize g.length = l at *
      have lz : ¬ (l : Int) < 2 := by omega
      have l0 : ((l : Int) == 0) = false := by rw [beq_eq_false_iff_ne]; omega
      have dz1 : (1 : Int) ≤ (D : Nat) := by omega
      subst ha
      unfold maxLen at h2'
      have Iz : (I : Int) < (l : Int) := by omega
      have Dz : ¬ (D : Int) ≤ 2 * (P : Int) := by omega
      go_enter Try.func5, Try.ntmps5
      go_wp2_with fail
      refine c1.mono ?_
      rintro e w1 ⟨rfl, E1⟩
      have X1 : Aside (Ext w w1) := E1
      have c2' := c2.out w1 E1
      clear c1 c2 E1
      go_wp2_with fail
      refine c2'.mono ?_
      rintro e w2 ⟨rfl, rfl⟩
      clear c2'
      go_wp2_with fail
      refine (c3.out w2).mono ?_
      rintro e w3 ⟨rfl, E3⟩
      have X3 : Aside (Ext w w3) := X1.out.trans E3
      clear c3 E3
      have e1' := e1.out w3 X3.out
      have c5' := c5.out w3 X3.out
      clear e1 c5
      go_wp2_with fail
      refine (c4.out w3).mono ?_
      rintro e w4 ⟨rfl, rfl⟩
      go_wp2_with fail
      refine c5'.mono ?_
      rintro e w5 ⟨rfl, E5⟩
      have X5 : Aside (Ext w w5) := X3.out.trans E5
      clear c5' E5
      go_wp2_with fail
      refine (c4.out w5).mono ?_
      rintro e w6 ⟨rfl, rfl⟩
      clear c4
      go_wp2
      go_ret
      exact ⟨ret_bool (by simp), X5.out⟩
    · clear hb B F hx hM
      generalize k % x.z.length = I at *
      generalize lst n x.z (x.z.length - 1) = D at *
      generalize pop t = P at *
      obtain ⟨a, c, g⟩ := x
      simp only [Um.v] at *
      generalize g.length = l at *
      have lz : ¬ (l : Int) < 2 := by omega
      have l0 : ((l : Int) == 0) = false := by rw [beq_eq_false_iff_ne]; omega
      have dz1 : (1 : Int) ≤ (D : Nat) := by omega
      have Dz : (D : Int) ≤ 2 * (P : Int) := by omega
      go_enter Try.func5, Try.ntmps5
      go_wp2_with fail
      refine c1.mono ?_
      rintro e w1 ⟨rfl, E1⟩
      have X1 : Aside (Ext w w1) := E1
      have c2' := c2.out w1 E1
      clear c1 c2 E1
      go_wp2_with fail
      refine c2'.mono ?_
      rintro e w2 ⟨rfl, rfl⟩
      clear c2'
      go_wp2_with fail
      refine (c3.out w2).mono ?_
      rintro e w3 ⟨rfl, E3⟩
      have X3 : Aside (Ext w w3) := X1.out.trans E3
      clear c3 E3
      go_wp2_with fail
      refine (c4.out w3).mono ?_
      rintro e w4 ⟨rfl, rfl⟩
      clear c4
      go_wp2
      go_ret
      exact ⟨ret_bool (by simp), X3.out⟩
  · rw [show (ce n [t] == 0) = false by rw [beq_eq_false_iff_ne]; exact hc] at c3
    clear hb B F hx hM
    generalize k % x.z.length = I at *
    generalize lst n x.z (x.z.length - 1) = D at *
    obtain ⟨a, c, g⟩ := x
    simp only [Um.v] at *
    generalize g.length = l at *
    have lz : ¬ (l : Int) < 2 := by omega
    have l0 : ((l : Int) == 0) = false := by rw [beq_eq_false_iff_ne]; omega
    have dz1 : (1 : Int) ≤ (D : Nat) := by omega
    go_enter Try.func5, Try.ntmps5
    go_wp2_with fail
    refine c1.mono ?_
    rintro e w1 ⟨rfl, E1⟩
    have X1 : Aside (Ext w w1) := E1
    have c2' := c2.out w1 E1
    clear c1 c2 E1
    go_wp2_with fail
    refine c2'.mono ?_
    rintro e w2 ⟨rfl, rfl⟩
    clear c2'
    go_wp2_with fail
    refine (c3.out w2).mono ?_
    rintro e w3 ⟨rfl, E3⟩
    have X3 : Aside (Ext w w3) := X1.out.trans E3
    clear c3 E3
    go_wp2
    go_ret
    exact ⟨ret_bool (by simp), X3.out⟩

theorem bookFixes_int (n : Int) (x : Um) (hb : ∀ y ∈ x.z, y < 4294967296) (k t : Int) (hk : (Lit.int .u8 k).wf = true) (ht : (Lit.int .u32 t).wf = true) (w : World) (hx : Us w x) : Calls Try.prog 5 #[.int .i64 n, x.v, .int .u8 k, .int .u32 t] w fun e w' => e = .returned (.bool true) ∧ Ext w w' := by
  have h1 := u8_of hk
  have h2 := u32_of ht
  obtain ⟨K, rfl⟩ : ∃ K : Nat, k = K := ⟨k.toNat, by omega⟩
  obtain ⟨S, rfl⟩ : ∃ S : Nat, t = S := ⟨t.toNat, by omega⟩
  by_cases h : bke n x.z ≠ 0 ∨ x.z.length < 2
  · exact bookFixes_err n x hb K S (by omega) (by omega) w hx h
  · have h0 : bke n x.z = 0 := Classical.byContradiction fun h' => h (Or.inl h')
    obtain ⟨m, rfl, B⟩ := bke_zero h0
    exact bookFixes_good m x hb K S (by omega) (by omega) w hx B (by have : ¬ x.z.length < 2 := fun h' => h (Or.inr h'); omega)

set_option maxRecDepth 100000 in
theorem bookFixes_lifted (os : Os) (started : os.Started) (H : Type) (enc : TypeId × Value → H) :
    ReturnsInHanded {} Try.checked os 5 .any (Rows.bookFixesSpec.pre6 enc Try.prog Try.f5 Rows.bookFixesRow.domain false) (Rows.bookFixesSpec.post enc Try.prog Try.f5 false true false false) := by
  refine returnsInHanded_of_change (C := Try.checked) own started (by kernel_rfl) Try.func5
    (ChangeSpec.witness6 (enc := enc) (C := Try.checked) false ⟨#[], #[.int .i64 0, .slice none 0 0, .int .u8 0, .int .u32 0], []⟩ 8 (by kernel_rfl) (by kernel_rfl) (by kernel_rfl) (by kernel_rfl)) ?_
  intro W base args ds gs before hval0 hW _ _
  have hval : ∀ (j : Nat) t v, Try.f5.params[j]? = some t → args[j]? = some v → Value.okWide Try.prog W .any base t v := hval0
  have hW' := hW
  obtain ⟨p, q, hA0, hV, rfl, hfz, hnd⟩ := hW
  have hA : DataW.TrodAll enc Try.prog W 0 (fun _ => true) true Try.f5.params.toList args.toList ds p := hA0
  rw [Try.params5] at hA hval
  obtain ⟨v0, vs0, d0, ds0, p0, q0, hargs, rfl, rfl, h0, r0⟩ := trodAll_cons hA
  obtain ⟨v1, vs1, d1, ds1, p1, q1, rfl, rfl, rfl, h1, r1⟩ := trodAll_cons r0
  obtain ⟨v2, vs2, d2, ds2, p2, q2, rfl, rfl, rfl, h2, r2⟩ := trodAll_cons r1
  obtain ⟨v3, vs3, d3, ds3, p3, q3, rfl, rfl, rfl, h3, r3⟩ := trodAll_cons r2
  obtain ⟨rfl, rfl, rfl⟩ := trodAll_nil r3
  obtain rfl : args = #[v0, v1, v2, v3] := by cases args; simp_all
  obtain ⟨rfl, rfl⟩ := trodVars_none hV
  have lt0 : ∀ x ∈ p0, x.block < W.heap.size := by obtain ⟨m, hm⟩ := h0; exact DataW.trod_lt m _ _ _ hm
  obtain ⟨x0, rfl, -, -, wf0⟩ := open_int Try.underlying3 (hval 0 3 v0 rfl rfl) h0
  have lt1 : ∀ x ∈ p1, x.block < W.heap.size := by obtain ⟨m, hm⟩ := h1; exact DataW.trod_lt m _ _ _ hm
  obtain ⟨x1, rfl, w1, b1⟩ := open_us (hval 1 23 v1 rfl rfl) h1
  have lt2 : ∀ x ∈ p2, x.block < W.heap.size := by obtain ⟨m, hm⟩ := h2; exact DataW.trod_lt m _ _ _ hm
  obtain ⟨x2, rfl, -, -, wf2⟩ := open_int Try.underlying5 (hval 2 5 v2 rfl rfl) h2
  have lt3 : ∀ x ∈ p3, x.block < W.heap.size := by obtain ⟨m, hm⟩ := h3; exact DataW.trod_lt m _ _ _ hm
  obtain ⟨x3, rfl, -, -, wf3⟩ := open_int Try.underlying22 (hval 3 22 v3 rfl rfl) h3
  clear hA0 hval0
  refine (bookFixes_int x0 x1 b1 x2 x3 wf2 wf3 W w1).mono fun e W' ⟨he, bel⟩ => ?_
  subst he
  exact ⟨_, rfl, _, _, _, [], _, [], hW', trodAll_mk1 (shut_bool Try.underlying4 _), (trodAll_cons_mk (Below.trod laidOut (by kernel_rfl) (of_decide_eq_true (by kernel_rfl)) h0 bel lt0) (trodAll_cons_mk (Below.trod laidOut (by kernel_rfl) (of_decide_eq_true (by kernel_rfl)) h1 bel lt1) (trodAll_cons_mk (Below.trod laidOut (by kernel_rfl) (of_decide_eq_true (by kernel_rfl)) h2 bel lt2) (trodAll_cons_mk (Below.trod laidOut (by kernel_rfl) (of_decide_eq_true (by kernel_rfl)) h3 bel lt3) trodAll_mk0)))), rfl, bel.frame _, fun h => by cases h⟩

theorem bookFixes_holds : Rows.BookFixesSaid :=
  OpenClaim.holds_of_wide 5 Try.f5 rfl rfl rfl rfl rfl rfl rfl ⟨rfl, rfl, rfl, rfl, rfl⟩ rfl rfl rfl rfl rfl (by kernel_rfl) Try.func5 (by kernel_rfl)
    (of_decide_eq_true (by kernel_rfl)) (by unfold Func.isWrapper; rw [if_neg (of_decide_eq_false (by kernel_rfl))]; exact ⟨rfl, rfl⟩)
    (fun os started H enc _ => bookFixes_lifted os started H enc)

#print axioms bookFixes_holds

end Go.Proofs.Ytfcleenbhadfhac
