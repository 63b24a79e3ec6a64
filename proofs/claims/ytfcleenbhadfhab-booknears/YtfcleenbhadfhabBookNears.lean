/-
  For any book and any word: book.Near tells the place of the first word that is as near to it as any, and how far it is, or what is wrong: BookNears returns true for every number, every list of words and every word, and changes nothing.
-/
import Derived.Test.YtfcleenbhadfhabOpu
import Derived.Test.YtfcleenbhadfhabNa
import Derived.Test.YtfcleenbhadfhabBr
namespace Go.Proofs.Ytfcleenbhadfhab
open Go.ChangeShapes Go.WideShapes Go.ChangeAt Go.RowKit Go.Deep
set_option linter.unusedVariables false

theorem bookNears_bad (n : Int) (x : Um) (hb : ∀ y ∈ x.z, y < 4294967296) (q : Nat) (hq : q < 4294967296) (w : World) (hx : Us w x) (h : bke n x.z ≠ 0) : Calls Try.prog 4 #[.int .i64 n, x.v, .int .u32 (q : Nat)] w fun e w' => e = .returned (.bool true) ∧ Ext w w' := by
  have c2 : Hid (∀ W, Ext w W → Calls Try.prog 10 #[.int .i64 n, x.v] W fun e w' => e = .returned (.int .i64 (bke n x.z)) ∧ w' = W) := fun W E => refBook_any n x hb W (hx.ext E)
  have c1 := near_bad n x hb q w hx h
  have hz : (bke n x.z != 0) = true := by rw [bne_iff_ne]; exact h
  have hz' : (bke n x.z == 0) = false := by rw [beq_eq_false_iff_ne]; exact h
  clear h hx hb
  generalize bke n x.z = R at *
  obtain ⟨a, c, g⟩ := x
  simp only [Um.v] at *
  generalize g.length = l at *
  go_enter Try.func4, Try.ntmps4
  go_wp2_with fail
  refine c1.mono ?_
  rintro e w1 ⟨rfl, E1⟩
  have X1 : Aside (Ext w w1) := E1
  have c2' := c2.out w1 E1
  clear c1 c2 E1
  go_wp2_with fail
  refine c2'.mono ?_
  rintro e w2 ⟨rfl, rfl⟩
  clear c2'
  go_wp2
  go_ret
  exact ⟨ret_bool (by simp), X1.out⟩

theorem bookNears_range (n : Int) (x : Um) (hb : ∀ y ∈ x.z, y < 4294967296) (q : Nat) (hq : q < 4294967296) (w : World) (hx : Us w x) (h : bke n x.z = 0) (h2 : ce n [q] ≠ 0) : Calls Try.prog 4 #[.int .i64 n, x.v, .int .u32 (q : Nat)] w fun e w' => e = .returned (.bool true) ∧ Ext w w' := by
  have c2 : Hid (∀ W, Ext w W → Calls Try.prog 10 #[.int .i64 n, x.v] W fun e w' => e = .returned (.int .i64 (bke n x.z)) ∧ w' = W) := fun W E => refBook_any n x hb W (hx.ext E)
  rw [h] at c2
  have c1 := near_range n x hb q hq w hx h h2
  have c3 : Hid (∀ W : World, Calls Try.prog 13 #[.int .i64 n, .slice (some ⟨W.heap.size, 0, none⟩) 1 1] (W.alloc (.cells #[.int .u32 (q : Nat)] 29)) fun e w' => e = .returned (.int .i64 (ce n [q])) ∧ Ext W w') := fun W =>
    (refBits_any n [q] (by simp) (fun x hx => by simp at hx; omega) W.heap.size 1 _ (heap_alloc_new _ _)).mono fun e w' ⟨h1, h2⟩ => ⟨h1, by rw [h2]; exact (Ext.refl W).alloc _⟩
  have hz : (ce n [q] != 0) = true := by rw [bne_iff_ne]; exact h2
  have hz' : (ce n [q] == 0) = false := by rw [beq_eq_false_iff_ne]; exact h2
  clear h hx hb h2
  generalize ce n [q] = R at *
  obtain ⟨a, c, g⟩ := x
  simp only [Um.v] at *
  generalize g.length = l at *
  go_enter Try.func4, Try.ntmps4
  go_wp2_with fail
  refine c1.mono ?_
  rintro e w1 ⟨rfl, E1⟩
  have X1 : Aside (Ext w w1) := E1
  have c2' := c2.out w1 E1
  clear c1 c2 E1
  go_wp2_with fail
  refine c2'.mono ?_
  rintro e w2 ⟨rfl, rfl⟩
  clear c2'
  go_wp2_with fail
  refine (c3.out w2).mono ?_
  rintro e w3 ⟨rfl, E3⟩
  have X3 : Aside (Ext w w3) := X1.out.trans E3
  clear c3 E3
  go_wp2
  go_ret
  exact ⟨ret_bool (by simp), X3.out⟩

theorem bookNears_none (n : Int) (x : Um) (hb : ∀ y ∈ x.z, y < 4294967296) (q : Nat) (hq : q < 4294967296) (w : World) (hx : Us w x) (h : bke n x.z = 0) (h2 : ce n [q] = 0) (hl : x.z.length = 0) : Calls Try.prog 4 #[.int .i64 n, x.v, .int .u32 (q : Nat)] w fun e w' => e = .returned (.bool true) ∧ Ext w w' := by
  have c2 : Hid (∀ W, Ext w W → Calls Try.prog 10 #[.int .i64 n, x.v] W fun e w' => e = .returned (.int .i64 (bke n x.z)) ∧ w' = W) := fun W E => refBook_any n x hb W (hx.ext E)
  rw [h] at c2
  have c1 := near_none n x hb q hq w hx h h2 hl
  have c3 : Hid (∀ W : World, Calls Try.prog 13 #[.int .i64 n, .slice (some ⟨W.heap.size, 0, none⟩) 1 1] (W.alloc (.cells #[.int .u32 (q : Nat)] 29)) fun e w' => e = .returned (.int .i64 (ce n [q])) ∧ Ext W w') := fun W =>
    (refBits_any n [q] (by simp) (fun x hx => by simp at hx; omega) W.heap.size 1 _ (heap_alloc_new _ _)).mono fun e w' ⟨h1, h2⟩ => ⟨h1, by rw [h2]; exact (Ext.refl W).alloc _⟩
  rw [h2] at c3
  clear h hx hb h2
  obtain ⟨a, c, g⟩ := x
  simp only [Um.v] at *
  rw [hl] at c1 c2 ⊢
  clear hl
  go_enter Try.func4, Try.ntmps4
  go_wp2_with fail
  refine c1.mono ?_
  rintro e w1 ⟨rfl, E1⟩
  have X1 : Aside (Ext w w1) := E1
  have c2' := c2.out w1 E1
  clear c1 c2 E1
  go_wp2_with fail
  refine c2'.mono ?_
  rintro e w2 ⟨rfl, rfl⟩
  clear c2'
  go_wp2_with fail
  refine (c3.out w2).mono ?_
  rintro e w3 ⟨rfl, E3⟩
  have X3 : Aside (Ext w w3) := X1.out.trans E3
  clear c3 E3
  go_wp2
  go_ret
  exact ⟨ret_bool (by simp), X3.out⟩

set_option maxHeartbeats 2000000 in
theorem bookNears_good (n : Nat) (x : Um) (hb : ∀ y ∈ x.z, y < 4294967296) (q : Nat) (w : World) (hx : Us w x) (B : Book n x.z) (hq' : q < 2 ^ n) (hl : 0 < x.z.length) : Calls Try.prog 4 #[.int .i64 n, x.v, .int .u32 (q : Nat)] w fun e w' => e = .returned (.bool true) ∧ Ext w w' := by
  have hM : 2 ^ n ≤ 2 ^ 12 := Nat.pow_le_pow_right (by omega) B.bits
  have hq : q < 4294967296 := by omega
  have c2 : Hid (∀ W, Ext w W → Calls Try.prog 10 #[.int .i64 n, x.v] W fun e w' => e = .returned (.int .i64 (bke n x.z)) ∧ w' = W) := fun W E => refBook_any n x hb W (hx.ext E)
  rw [B.told] at c2
  have c1 := near_good n x q w hx B hq' hl
  have c3 : Hid (∀ W : World, Calls Try.prog 13 #[.int .i64 n, .slice (some ⟨W.heap.size, 0, none⟩) 1 1] (W.alloc (.cells #[.int .u32 (q : Nat)] 29)) fun e w' => e = .returned (.int .i64 (ce n [q])) ∧ Ext W w') := fun W =>
    (refBits_any n [q] (by simp) (fun x hx => by simp at hx; omega) W.heap.size 1 _ (heap_alloc_new _ _)).mono fun e w' ⟨h1, h2⟩ => ⟨h1, by rw [h2]; exact (Ext.refl W).alloc _⟩
  rw [ce_good B.bits (fun x hx => by simp at hx; omega)] at c3
  have AP : Hid (∀ k W, k < x.z.length → Calls Try.prog 14 #[.int .u32 (x.z.getD k 0 : Nat), .int .u32 (q : Nat)] W fun e w' => e = .returned (.int .i64 (far (x.z.getD k 0) q : Nat)) ∧ w' = W) := fun k W hk => refApart_any _ _ (by rw [getD_get hk]; exact hb _ (List.getElem_mem hk)) hq W
  have AQ : Hid (∀ (z : Nat) W, z < 4294967296 → Calls Try.prog 14 #[.int .u32 (z : Nat), .int .u32 (q : Nat)] W fun e w' => e = .returned (.int .i64 (far z q : Nat)) ∧ w' = W) := fun z W hz => refApart_any _ _ hz hq W
  have HB : Hid (∀ k, k < x.z.length → x.z.getD k 0 < 4294967296) := fun k hk => by rw [getD_get hk]; exact hb _ (List.getElem_mem hk)
  have F32 : Hid (∀ k, far (x.z.getD k 0) q ≤ 32) := fun k => far_le32 _ _
  have few := B.few
  have BL : Hid (∀ k, k ≤ x.z.length → bst x.z q k < x.z.length) := fun k hk => by
    rcases Nat.eq_zero_or_pos k with rfl | h
    · exact hl
    · have := bst_lt x.z q k h; omega
  have BN : Hid (∀ k, bst x.z q (k + 1) = if far (x.z.getD k 0) q < far (x.z.getD (bst x.z q k) 0) q then k else bst x.z q k) := fun k => rfl
  have bl0 := BL.out x.z.length (Nat.le_refl _)
  have f0 := F32.out (bst x.z q x.z.length)
  obtain ⟨R, hR⟩ : ∃ R, R = bst x.z q x.z.length := ⟨_, rfl⟩
  obtain ⟨S, hS⟩ : ∃ S, S = far (x.z.getD R 0) q := ⟨_, rfl⟩
  rw [← hR] at c1 bl0 f0
  rw [← hS] at c1 f0
  have HR : Hid (R = bst x.z q x.z.length) := hR
  have HS : Hid (S = far (x.z.getD R 0) q) := hS
  clear hR hS hM hb B hq hq'
  obtain ⟨a, c, g⟩ := x
  obtain ⟨h1, h2, _, b, o, h4, h5⟩ := hx
  simp only at hl h1 h2 h4 h5 AP F32 few BL BN bl0 HR HS HB
  simp only [Um.v] at *
  unfold maxLen at h2
  obtain rfl := h4 hl
  have H5 : Hid (∀ i, i < g.length → w.cell? ⟨b, o + i, none⟩ = some (.int .u32 (g.getD i 0 : Nat))) := h5
  clear h5 h4
  have L : ∃ m, g.length = m := ⟨_, rfl⟩
  obtain ⟨m, hm⟩ := L
  rw [hm] at hl h1 c1 c2 AP few BL bl0 HR H5 HB ⊢
  clear hm
  have lz : ((m : Int) == 0) = false := by rw [beq_eq_false_iff_ne]; omega
  go_enter Try.func4, Try.ntmps4
  go_wp2_with fail
  refine c1.mono ?_
  rintro e w1 ⟨rfl, E1⟩
  have X1 : Aside (Ext w w1) := E1
  have c2' := c2.out w1 E1
  clear c1 c2 E1
  go_wp2_with fail
  refine c2'.mono ?_
  rintro e w2 ⟨rfl, rfl⟩
  clear c2'
  go_wp2_with fail
  refine (c3.out w2).mono ?_
  rintro e w3 ⟨rfl, E3⟩
  have X3 : Aside (Ext w w3) := X1.out.trans E3
  clear c3 E3
  go_wp2
  go_loopg [11, 12, 13, 53] m (fun gg s11 _ _ s wr => ∃ k : Nat, k ≤ m ∧ m - k ≤ gg ∧ s = .int .i64 k ∧ s11 = .int .i64 (bst g q k : Nat) ∧ Aside (Ext w wr))
  case atStart => exact ⟨0, Nat.zero_le _, by omega, rfl, rfl, X3.out⟩
  case round =>
    obtain ⟨k, hk, hgg, rfl, rfl, BW⟩ := hrel
    by_cases hlt : k < m
    · have hltz : (k : Int) < (m : Int) := by omega
      have bl := BL.out k hk
      have e1 := BW.out.cell (H5.out k hlt)
      have e2 := BW.out.cell (H5.out _ bl)
      have y1 := HB.out k hlt
      have y2 := HB.out _ bl
      have f1 := F32.out k
      have f2 := F32.out (bst g q k)
      have bn := BN.out k
      have blz : ((bst g q k : Nat) : Int) < (m : Int) := by omega
      clear AP F32 H5 BL BN HR HS HB
      generalize bst g q k = P at *
      generalize g.getD k 0 = y at *
      generalize g.getD P 0 = v at *
      by_cases hz : far y q < far v q
      · have hzz : ((far y q : Nat) : Int) < ((far v q : Nat) : Int) := by omega
        rw [if_pos hz] at bn
        go_wp2
        go_quiet ((go_at_call 14; exact Calls.quiet_of_same (AQ.out _ _ (by assumption))))
        go_wp2
        go_roundg (m - (k + 1))
        case measure => omega
        case rel => exact ⟨k + 1, by omega, by omega, by go_num, by rw [bn], BW.out.drewN _⟩
      · have hzz : decide (((far y q : Nat) : Int) < ((far v q : Nat) : Int)) = false := decide_eq_false (by omega)
        rw [if_neg hz] at bn
        go_wp2
        go_quiet ((go_at_call 14; exact Calls.quiet_of_same (AQ.out _ _ (by assumption))))
        go_wp2
        go_roundg (m - (k + 1))
        case measure => omega
        case rel => exact ⟨k + 1, by omega, by omega, by go_num, by rw [bn], BW.out.drewN _⟩
    · obtain rfl : k = m := by omega
      rw [← HR.out]
      have e1 := BW.out.cell (H5.out R bl0)
      have a1 : Hid (∀ W, Calls Try.prog 14 #[.int .u32 (g.getD R 0 : Nat), .int .u32 (q : Nat)] W fun e w' => e = .returned (.int .i64 (S : Nat)) ∧ w' = W) := fun W => by
        have := AP.out R W bl0
        rwa [← HS.out] at this
      have blz : ((R : Nat) : Int) < (k : Int) := by omega
      clear AP F32 H5 BL BN HR HS
      generalize g.getD R 0 = y at *
      go_wp2_with fail
      refine (a1.out _).mono ?_
      rintro e w4 ⟨rfl, rfl⟩
      clear a1
      go_wp2
      go_ret
      exact ⟨ret_bool (by simp), BW.out⟩

theorem bookNears_any (n : Int) (x : Um) (hb : ∀ y ∈ x.z, y < 4294967296) (q : Nat) (hq : q < 4294967296) (w : World) (hx : Us w x) : Calls Try.prog 4 #[.int .i64 n, x.v, .int .u32 (q : Nat)] w fun e w' => e = .returned (.bool true) ∧ Ext w w' := by
  by_cases h : bke n x.z = 0
  · by_cases h2 : ce n [q] = 0
    · rcases Nat.eq_zero_or_pos x.z.length with hl | hl
      · exact bookNears_none n x hb q hq w hx h h2 hl
      · obtain ⟨m, rfl, B⟩ := bke_zero h
        obtain ⟨m', e, _, hg⟩ := ce_zero h2
        obtain rfl : m = m' := by omega
        exact bookNears_good m x hb q w hx B (hg q (by simp)) hl
    · exact bookNears_range n x hb q hq w hx h h2
  · exact bookNears_bad n x hb q hq w hx h

theorem bookNears_int (n : Int) (x : Um) (hb : ∀ y ∈ x.z, y < 4294967296) (q : Int) (hq : (Lit.int .u32 q).wf = true) (w : World) (hx : Us w x) : Calls Try.prog 4 #[.int .i64 n, x.v, .int .u32 q] w fun e w' => e = .returned (.bool true) ∧ Ext w w' := by
  have h := u32_of hq
  obtain ⟨Q, rfl⟩ : ∃ Q : Nat, q = Q := ⟨q.toNat, by omega⟩
  exact bookNears_any n x hb Q (by omega) w hx

set_option maxRecDepth 100000 in
theorem bookNears_lifted (os : Os) (started : os.Started) (H : Type) (enc : TypeId × Value → H) :
    ReturnsInHanded {} Try.checked os 4 .any (Rows.bookNearsSpec.pre6 enc Try.prog Try.f4 Rows.bookNearsRow.domain false) (Rows.bookNearsSpec.post enc Try.prog Try.f4 false true false false) := by
  refine returnsInHanded_of_change (C := Try.checked) own started (by kernel_rfl) Try.func4
    (ChangeSpec.witness6 (enc := enc) (C := Try.checked) false ⟨#[], #[.int .i64 0, .slice none 0 0, .int .u32 0], []⟩ 8 (by kernel_rfl) (by kernel_rfl) (by kernel_rfl) (by kernel_rfl)) ?_
  intro W base args ds gs before hval0 hW _ _
  have hval : ∀ (j : Nat) t v, Try.f4.params[j]? = some t → args[j]? = some v → Value.okWide Try.prog W .any base t v := hval0
  have hW' := hW
  obtain ⟨p, q, hA0, hV, rfl, hfz, hnd⟩ := hW
  have hA : DataW.TrodAll enc Try.prog W 0 (fun _ => true) true Try.f4.params.toList args.toList ds p := hA0
  rw [Try.params4] at hA hval
  obtain ⟨v0, vs0, d0, ds0, p0, q0, hargs, rfl, rfl, h0, r0⟩ := trodAll_cons hA
  obtain ⟨v1, vs1, d1, ds1, p1, q1, rfl, rfl, rfl, h1, r1⟩ := trodAll_cons r0
  obtain ⟨v2, vs2, d2, ds2, p2, q2, rfl, rfl, rfl, h2, r2⟩ := trodAll_cons r1
  obtain ⟨rfl, rfl, rfl⟩ := trodAll_nil r2
  obtain rfl : args = #[v0, v1, v2] := by cases args; simp_all
  obtain ⟨rfl, rfl⟩ := trodVars_none hV
  have lt0 : ∀ x ∈ p0, x.block < W.heap.size := by obtain ⟨m, hm⟩ := h0; exact DataW.trod_lt m _ _ _ hm
  obtain ⟨x0, rfl, -, -, wf0⟩ := open_int Try.underlying3 (hval 0 3 v0 rfl rfl) h0
  have lt1 : ∀ x ∈ p1, x.block < W.heap.size := by obtain ⟨m, hm⟩ := h1; exact DataW.trod_lt m _ _ _ hm
  obtain ⟨x1, rfl, w1, b1⟩ := open_us (hval 1 22 v1 rfl rfl) h1
  have lt2 : ∀ x ∈ p2, x.block < W.heap.size := by obtain ⟨m, hm⟩ := h2; exact DataW.trod_lt m _ _ _ hm
  obtain ⟨x2, rfl, -, -, wf2⟩ := open_int Try.underlying29 (hval 2 29 v2 rfl rfl) h2
  clear hA0 hval0
  refine (bookNears_int x0 x1 b1 x2 wf2 W w1).mono fun e W' ⟨he, bel⟩ => ?_
  subst he
  exact ⟨_, rfl, _, _, _, [], _, [], hW', trodAll_mk1 (shut_bool Try.underlying4 _), (trodAll_cons_mk (Below.trod laidOut (by kernel_rfl) (of_decide_eq_true (by kernel_rfl)) h0 bel lt0) (trodAll_cons_mk (Below.trod laidOut (by kernel_rfl) (of_decide_eq_true (by kernel_rfl)) h1 bel lt1) (trodAll_cons_mk (Below.trod laidOut (by kernel_rfl) (of_decide_eq_true (by kernel_rfl)) h2 bel lt2) trodAll_mk0))), rfl, bel.frame _, fun h => by cases h⟩

theorem bookNears_holds : Rows.BookNearsSaid :=
  OpenClaim.holds_of_wide 4 Try.f4 rfl rfl rfl rfl rfl rfl rfl ⟨rfl, rfl, rfl, rfl, rfl⟩ rfl rfl rfl rfl rfl (by kernel_rfl) Try.func4 (by kernel_rfl)
    (of_decide_eq_true (by kernel_rfl)) (by unfold Func.isWrapper; rw [if_neg (of_decide_eq_false (by kernel_rfl))]; exact ⟨rfl, rfl⟩)
    (fun os started H enc _ => bookNears_lifted os started H enc)

#print axioms bookNears_holds

end Go.Proofs.Ytfcleenbhadfhab
