/-
  For any checks and any two words: the mark of their sum is the sum of their marks, and the leader of a word's mark has no more bits than it: LeaderSums returns true for every number, every list of words and every two words, and changes nothing.
-/
import Derived.Test.YtiflbjbcagdlaaaOpu
import Derived.Test.YtiflbjbcagdlaaaBl
namespace Go.Proofs.Ytiflbjbcagdlaaa
open Go.ChangeShapes Go.WideShapes Go.ChangeAt Go.RowKit Go.Deep
set_option linter.unusedVariables false

theorem leaderSums_rows (n : Int) (x : Um) (hb : ∀ y ∈ x.z, y < 4294967296) (q : Nat) (hq : q < 4294967296) (v : Nat) (hv : v < 4294967296) (w : World) (hx : Us w x) (h : re n x.z ≠ 0) :
    Calls Try.prog 7 #[.int .i64 n, x.v, .int .u32 (q : Nat), .int .u32 (v : Nat)] w fun e w' => e = .returned (.bool true) ∧ Ext w w' := by
  have c1 := mark_any n x hb q hq w hx
  have c1b : Hid (∀ W, Ext w W → Calls Try.prog 8 #[.int .i64 n, x.v, .int .u32 (v : Nat)] W fun e w' => e = .returned (.tuple #[.int .u32 (if we n x.z v n.toNat = 0 then mk x.z v else 0 : Nat), .int .i64 (we n x.z v n.toNat)]) ∧ Ext W w') := fun W E => mark_any n x hb v hv W (hx.ext E)
  have c2 : Hid (∀ W, Ext w W → Calls Try.prog 14 #[.int .i64 n, x.v] W fun e w' => e = .returned (.bool (re n x.z == 0)) ∧ w' = W) := fun W E => rowed_any n x hb W (hx.ext E)
  rw [we_bad h, if_neg h] at c1 c1b
  have hz : (re n x.z == 0) = false := by rw [beq_eq_false_iff_ne]; exact h
  have hz2 : (re n x.z != 0) = true := by rw [bne_iff_ne]; exact h
  rw [hz] at c2
  clear h hb hx hz
  generalize re n x.z = R at *
  obtain ⟨a, c, g⟩ := x
  simp only [Um.v] at *
  generalize g.length = gl at *
  go_enter Try.func7, Try.ntmps7
  go_wp2_with fail
  refine c1.mono ?_
  rintro e w1 ⟨rfl, E1⟩
  have X1 : Hid (Ext w w1) := E1
  have c1b' := c1b.out w1 E1
  clear c1 c1b E1
  go_wp2_with fail
  refine c1b'.mono ?_
  rintro e w2 ⟨rfl, E2⟩
  have X : Hid (Ext w w2) := X1.out.trans E2
  have c2' := c2.out w2 X.out
  clear c1b' E2 c2 X1
  go_wp2_with fail
  refine c2'.mono ?_
  rintro e w3 ⟨rfl, rfl⟩
  clear c2'
  go_wp2
  go_ret
  exact ⟨ret_bool (by simp), X.out⟩

theorem leaderSums_high (n : Nat) (hn : n ≤ 12) (x : Um) (hl : x.z.length ≤ 8) (hb : ∀ y ∈ x.z, y < 2 ^ n) (q : Nat) (hq : q < 4294967296) (v : Nat) (hv : v < 4294967296) (w : World) (hx : Us w x) (h : ¬ (q < 2 ^ n ∧ v < 2 ^ n)) :
    Calls Try.prog 7 #[.int .i64 n, x.v, .int .u32 (q : Nat), .int .u32 (v : Nat)] w fun e w' => e = .returned (.bool true) ∧ Ext w w' := by
  have c1 := mark_any n x (rows_low hn hb) q hq w hx
  have c1b : Hid (∀ W, Ext w W → Calls Try.prog 8 #[.int .i64 (n : Int), x.v, .int .u32 (v : Nat)] W fun e w' => e = .returned (.tuple #[.int .u32 (if we n x.z v (n : Int).toNat = 0 then mk x.z v else 0 : Nat), .int .i64 (we n x.z v (n : Int).toNat)]) ∧ Ext W w') := fun W E => mark_any n x (rows_low hn hb) v hv W (hx.ext E)
  have c2 : Hid (∀ W, Ext w W → Calls Try.prog 14 #[.int .i64 (n : Int), x.v] W fun e w' => e = .returned (.bool true) ∧ w' = W) := fun W E => by
    have := rowed_any n x (rows_low hn hb) W (hx.ext E)
    rw [re_good hn hl hb] at this
    exact this
  have c3 : Hid (∀ (W : World), Calls Try.prog 15 #[.int .i64 (n : Int), .slice (some ⟨W.heap.size, 0, none⟩) 2 2] (W.alloc (.cells #[.int .u32 q, .int .u32 v] 23)) fun e w' => e = .returned (.bool false) ∧ w' = W.alloc (.cells #[.int .u32 q, .int .u32 v] 23)) := fun W => by
    have := below_two n hn q v hq hv W
    rw [decide_eq_false h] at this
    exact this
  have ea : we n x.z q (n : Int).toNat = if q < 2 ^ n then 0 else 4 := by rw [we_good hn hl hb, Int.toNat_natCast]
  have eb : we n x.z v (n : Int).toNat = if v < 2 ^ n then 0 else 4 := by rw [we_good hn hl hb, Int.toNat_natCast]
  have ne : we n x.z q (n : Int).toNat = 0 → we n x.z v (n : Int).toNat ≠ 0 := by
    rw [ea, eb]
    intro h1 h2
    by_cases u1 : q < 2 ^ n
    · by_cases u2 : v < 2 ^ n
      · exact h ⟨u1, u2⟩
      · rw [if_neg u2] at h2; omega
    · rw [if_neg u1] at h1; omega
  clear h hb hx ea eb
  generalize (if we n x.z q (n : Int).toNat = 0 then mk x.z q else 0) = A1 at *
  generalize (if we n x.z v (n : Int).toNat = 0 then mk x.z v else 0) = A2 at *
  generalize we n x.z q (n : Int).toNat = R1 at *
  generalize we n x.z v (n : Int).toNat = R2 at *
  obtain ⟨a, c, g⟩ := x
  simp only [Um.v] at *
  generalize g.length = gl at *
  by_cases hr : R1 = 0
  · have hz2 : (R2 != 0) = true := by rw [bne_iff_ne]; exact ne hr
    subst hr
    clear ne
    go_enter Try.func7, Try.ntmps7
    go_wp2_with fail
    refine c1.mono ?_
    rintro e w1 ⟨rfl, E1⟩
    have X1 : Hid (Ext w w1) := E1
    have c1b' := c1b.out w1 E1
    clear c1 c1b E1
    go_wp2_with fail
    refine c1b'.mono ?_
    rintro e w2 ⟨rfl, E2⟩
    have X2 : Hid (Ext w w2) := X1.out.trans E2
    have X : Hid (Ext w (w2.alloc (.cells #[.int .u32 q, .int .u32 v] 23))) := X2.out.alloc _
    have c2' := c2.out w2 X2.out
    have c3' := c3.out w2
    clear c1b' E2 c2 c3 X1 X2
    go_wp2_with fail
    refine c2'.mono ?_
    rintro e w3 ⟨rfl, rfl⟩
    clear c2'
    go_wp2_with fail
    refine c3'.mono ?_
    rintro e w4 ⟨rfl, rfl⟩
    clear c3'
    generalize hW : w3.alloc (.cells #[.int .u32 q, .int .u32 v] 23) = W at *
    clear hW
    go_wp2
    go_ret
    exact ⟨ret_bool (by simp), X.out⟩
  · have hz1 : (R1 != 0) = true := by rw [bne_iff_ne]; exact hr
    clear ne hr
    go_enter Try.func7, Try.ntmps7
    go_wp2_with fail
    refine c1.mono ?_
    rintro e w1 ⟨rfl, E1⟩
    have X1 : Hid (Ext w w1) := E1
    have c1b' := c1b.out w1 E1
    clear c1 c1b E1
    go_wp2_with fail
    refine c1b'.mono ?_
    rintro e w2 ⟨rfl, E2⟩
    have X2 : Hid (Ext w w2) := X1.out.trans E2
    have X : Hid (Ext w (w2.alloc (.cells #[.int .u32 q, .int .u32 v] 23))) := X2.out.alloc _
    have c2' := c2.out w2 X2.out
    have c3' := c3.out w2
    clear c1b' E2 c2 c3 X1 X2
    go_wp2_with fail
    refine c2'.mono ?_
    rintro e w3 ⟨rfl, rfl⟩
    clear c2'
    go_wp2_with fail
    refine c3'.mono ?_
    rintro e w4 ⟨rfl, rfl⟩
    clear c3'
    generalize hW : w3.alloc (.cells #[.int .u32 q, .int .u32 v] 23) = W at *
    clear hW
    go_wp2
    go_ret
    exact ⟨ret_bool (by simp), X.out⟩

theorem leaderSums_good (n : Nat) (hn : n ≤ 12) (x : Um) (hl : x.z.length ≤ 8) (hb : ∀ y ∈ x.z, y < 2 ^ n) (q : Nat) (hq : q < 4294967296) (v : Nat) (hv : v < 4294967296) (w : World) (hx : Us w x) (h : q < 2 ^ n ∧ v < 2 ^ n) :
    Calls Try.prog 7 #[.int .i64 n, x.v, .int .u32 (q : Nat), .int .u32 (v : Nat)] w fun e w' => e = .returned (.bool true) ∧ Ext w w' := by
  have hM : 2 ^ n ≤ 2 ^ 12 := Nat.pow_le_pow_right (by omega) hn
  have hk : ∀ z, mk x.z z < 2 ^ x.z.length := mk_lt x.z
  have hk8 : 2 ^ x.z.length ≤ 2 ^ 8 := Nat.pow_le_pow_right (by omega) hl
  have cm : ∀ z W, z < 2 ^ n → Ext w W → Calls Try.prog 8 #[.int .i64 (n : Int), x.v, .int .u32 (z : Nat)] W fun e w' => e = .returned (.tuple #[.int .u32 (mk x.z z : Nat), .int .i64 0]) ∧ Ext W w' := fun z W hz E => by
    have := mark_any n x (rows_low hn hb) z (by omega) W (hx.ext E)
    rw [we_good hn hl hb, Int.toNat_natCast, if_pos hz, if_pos rfl] at this
    exact this
  obtain ⟨l, hll⟩ := bst_has (f := mk x.z) h.1
  have hls := bst_some hll
  have le1 : pop l ≤ pop q := by have := hls.few q h.1 rfl; omega
  have cl : Hid (∀ W, Ext w W → Calls Try.prog 11 #[.int .i64 (n : Int), x.v, .int .u32 (mk x.z q : Nat)] W fun e w' => e = .returned (.tuple #[.int .u32 (l : Nat), .int .i64 0]) ∧ Ext W w') := fun W E => by
    have := leader_any n x (rows_low hn hb) (mk x.z q) (by have := hk q; omega) W (hx.ext E)
    have ew : we n x.z (mk x.z q) x.z.length = 0 := by rw [we_good hn hl hb, if_pos (hk q)]
    have el : ldr n x.z (mk x.z q) = some l := hll
    unfold ldv lde at this
    rw [if_pos ew, if_pos ew, Int.toNat_natCast, el] at this
    exact this
  have c1 := cm q w h.1 (Ext.refl w)
  have c1b : Hid (∀ W, Ext w W → Calls Try.prog 8 #[.int .i64 (n : Int), x.v, .int .u32 (v : Nat)] W fun e w' => e = .returned (.tuple #[.int .u32 (mk x.z v : Nat), .int .i64 0]) ∧ Ext W w') := fun W E => cm v W h.2 E
  have c1c : Hid (∀ W, Ext w W → Calls Try.prog 8 #[.int .i64 (n : Int), x.v, .int .u32 (q ^^^ v : Nat)] W fun e w' => e = .returned (.tuple #[.int .u32 (mk x.z q ^^^ mk x.z v : Nat), .int .i64 0]) ∧ Ext W w') := fun W E => by
    have := cm (q ^^^ v) W (Nat.xor_lt_two_pow h.1 h.2) E
    rw [mk_xor] at this
    exact this
  have c1d : Hid (∀ W, Ext w W → Calls Try.prog 8 #[.int .i64 (n : Int), x.v, .int .u32 (l : Nat)] W fun e w' => e = .returned (.tuple #[.int .u32 (mk x.z q : Nat), .int .i64 0]) ∧ Ext W w') := fun W E => by
    have := cm l W hls.lt E
    rw [hls.has] at this
    exact this
  have c2 : Hid (∀ W, Ext w W → Calls Try.prog 14 #[.int .i64 (n : Int), x.v] W fun e w' => e = .returned (.bool true) ∧ w' = W) := fun W E => by
    have := rowed_any n x (rows_low hn hb) W (hx.ext E)
    rw [re_good hn hl hb] at this
    exact this
  have c3 : Hid (∀ (W : World), Calls Try.prog 15 #[.int .i64 (n : Int), .slice (some ⟨W.heap.size, 0, none⟩) 2 2] (W.alloc (.cells #[.int .u32 q, .int .u32 v] 23)) fun e w' => e = .returned (.bool true) ∧ w' = W.alloc (.cells #[.int .u32 q, .int .u32 v] 23)) := fun W => by
    have := below_two n hn q v hq hv W
    rw [decide_eq_true h] at this
    exact this
  have c4 : Hid (∀ W, Calls Try.prog 17 #[.int .u32 (l : Nat)] W fun e w' => e = .returned (.int .i64 (pop l : Nat)) ∧ w' = W) := fun W => size_any l (by have := hls.lt; omega) W
  have c5 : Hid (∀ W, Calls Try.prog 17 #[.int .u32 (q : Nat)] W fun e w' => e = .returned (.int .i64 (pop q : Nat)) ∧ w' = W) := fun W => size_any q hq W
  have ex := u32_xor_nat q v hq hv
  have ey := u32_xor_nat (mk x.z q) (mk x.z v) (by have := hk q; omega) (by have := hk v; omega)
  clear h hb hx hls hll cm hk hk8
  generalize pop l = pl at *
  generalize pop q = pq at *
  generalize mk x.z q ^^^ mk x.z v = Z at *
  generalize q ^^^ v = Y at *
  generalize mk x.z q = A1 at *
  generalize mk x.z v = A2 at *
  obtain ⟨a, c, g⟩ := x
  simp only [Um.v] at *
  generalize g.length = gl at *
  go_enter Try.func7, Try.ntmps7
  go_wp2_with fail
  refine c1.mono ?_
  rintro e w1 ⟨rfl, E1⟩
  have X1 : Hid (Ext w w1) := E1
  have c1b' := c1b.out w1 E1
  clear c1 c1b E1
  go_wp2_with fail
  refine c1b'.mono ?_
  rintro e w2 ⟨rfl, E2⟩
  have X2 : Hid (Ext w w2) := X1.out.trans E2
  have X3 : Hid (Ext w (w2.alloc (.cells #[.int .u32 q, .int .u32 v] 23))) := X2.out.alloc _
  have c2' := c2.out w2 X2.out
  have c3' := c3.out w2
  clear c1b' E2 c2 c3 X1 X2
  go_wp2_with fail
  refine c2'.mono ?_
  rintro e w3 ⟨rfl, rfl⟩
  clear c2'
  go_wp2_with fail
  refine c3'.mono ?_
  rintro e w4 ⟨rfl, rfl⟩
  clear c3'
  have c1c' := c1c.out _ X3.out
  generalize hW : w3.alloc (.cells #[.int .u32 q, .int .u32 v] 23) = W at *
  clear hW c1c
  go_wp2_with fail
  refine c1c'.mono ?_
  rintro e w5 ⟨rfl, E5⟩
  have X5 : Hid (Ext w w5) := X3.out.trans E5
  have cl' := cl.out w5 X5.out
  clear c1c' E5 cl X3
  go_wp2_with fail
  refine cl'.mono ?_
  rintro e w6 ⟨rfl, E6⟩
  have X6 : Hid (Ext w w6) := X5.out.trans E6
  have c1d' := c1d.out w6 X6.out
  clear cl' E6 c1d X5
  go_wp2_with fail
  refine c1d'.mono ?_
  rintro e w7 ⟨rfl, E7⟩
  have X : Hid (Ext w w7) := X6.out.trans E7
  have c4' := c4.out w7
  have c5' := c5.out w7
  clear c1d' E7 c4 c5 X6
  go_wp2_with fail
  refine c4'.mono ?_
  rintro e w8 ⟨rfl, rfl⟩
  clear c4'
  go_wp2_with fail
  refine c5'.mono ?_
  rintro e w9 ⟨rfl, rfl⟩
  clear c5'
  go_wp2
  go_ret
  exact ⟨ret_bool (by simp), X.out⟩

theorem leaderSums_walk (n : Int) (x : Um) (hb : ∀ y ∈ x.z, y < 4294967296) (q : Int) (hw : (Lit.int .u32 q).wf = true) (v : Int) (hw2 : (Lit.int .u32 v).wf = true) (w : World) (hx : Us w x) :
    Calls Try.prog 7 #[.int .i64 n, x.v, .int .u32 q, .int .u32 v] w fun e w' => e = .returned (.bool true) ∧ Ext w w' := by
  have hq' : 0 ≤ q ∧ q < 4294967296 := u32_in hw
  obtain ⟨m, rfl⟩ : ∃ m : Nat, q = m := ⟨q.toNat, by omega⟩
  have hv' : 0 ≤ v ∧ v < 4294967296 := u32_in hw2
  obtain ⟨k, rfl⟩ : ∃ k : Nat, v = k := ⟨v.toNat, by omega⟩
  by_cases h : re n x.z = 0
  · obtain ⟨s, rfl, h1, h2, h3⟩ := re_zero h
    by_cases a1 : m < 2 ^ s ∧ k < 2 ^ s
    · exact leaderSums_good s h1 x h2 h3 m (by omega) k (by omega) w hx a1
    · exact leaderSums_high s h1 x h2 h3 m (by omega) k (by omega) w hx a1
  · exact leaderSums_rows n x hb m (by omega) k (by omega) w hx h

set_option maxRecDepth 100000 in
theorem leaderSums_lifted (os : Os) (started : os.Started) (H : Type) (enc : TypeId × Value → H) :
    ReturnsInHanded {} Try.checked os 7 .any (Rows.leaderSumsSpec.pre6 enc Try.prog Try.f7 Rows.leaderSumsRow.domain false) (Rows.leaderSumsSpec.post enc Try.prog Try.f7 false true false false) := by
  refine returnsInHanded_of_change (C := Try.checked) own started (by kernel_rfl) Try.func7
    (ChangeSpec.witness6 (enc := enc) (C := Try.checked) false ⟨#[], #[.int .i64 0, .slice none 0 0, .int .u32 0, .int .u32 0], []⟩ 8 (by kernel_rfl) (by kernel_rfl) (by kernel_rfl) (by kernel_rfl)) ?_
  intro W base args ds gs before hval0 hW _ _
  have hval : ∀ (j : Nat) t v, Try.f7.params[j]? = some t → args[j]? = some v → Value.okWide Try.prog W .any base t v := hval0
  have hW' := hW
  obtain ⟨p, q, hA0, hV, rfl, hfz, hnd⟩ := hW
  have hA : DataW.TrodAll enc Try.prog W 0 (fun _ => true) true Try.f7.params.toList args.toList ds p := hA0
  rw [Try.params7] at hA hval
  obtain ⟨v0, vs0, d0, ds0, p0, q0, hargs, rfl, rfl, h0, r0⟩ := trodAll_cons hA
  obtain ⟨v1, vs1, d1, ds1, p1, q1, rfl, rfl, rfl, h1, r1⟩ := trodAll_cons r0
  obtain ⟨v2, vs2, d2, ds2, p2, q2, rfl, rfl, rfl, h2, r2⟩ := trodAll_cons r1
  obtain ⟨v3, vs3, d3, ds3, p3, q3, rfl, rfl, rfl, h3, r3⟩ := trodAll_cons r2
  obtain ⟨rfl, rfl, rfl⟩ := trodAll_nil r3
  obtain rfl : args = #[v0, v1, v2, v3] := by cases args; simp_all
  obtain ⟨rfl, rfl⟩ := trodVars_none hV
  have lt0 : ∀ x ∈ p0, x.block < W.heap.size := by obtain ⟨m, hm⟩ := h0; exact DataW.trod_lt m _ _ _ hm
  obtain ⟨x0, rfl, -, -, wf0⟩ := open_int Try.underlying3 (hval 0 3 v0 rfl rfl) h0
  have lt1 : ∀ x ∈ p1, x.block < W.heap.size := by obtain ⟨m, hm⟩ := h1; exact DataW.trod_lt m _ _ _ hm
  obtain ⟨x1, rfl, w1, b1⟩ := open_us (hval 1 22 v1 rfl rfl) h1
  have lt2 : ∀ x ∈ p2, x.block < W.heap.size := by obtain ⟨m, hm⟩ := h2; exact DataW.trod_lt m _ _ _ hm
  obtain ⟨x2, rfl, -, -, wf2⟩ := open_int Try.underlying23 (hval 2 23 v2 rfl rfl) h2
  have lt3 : ∀ x ∈ p3, x.block < W.heap.size := by obtain ⟨m, hm⟩ := h3; exact DataW.trod_lt m _ _ _ hm
  obtain ⟨x3, rfl, -, -, wf3⟩ := open_int Try.underlying23 (hval 3 23 v3 rfl rfl) h3
  clear hA0 hval0
  refine (leaderSums_walk x0 x1 b1 x2 wf2 x3 wf3 W w1).mono fun e W' ⟨he, bel⟩ => ?_
  subst he
  exact ⟨_, rfl, _, _, _, [], _, [], hW', trodAll_mk1 (shut_bool Try.underlying4 _), (trodAll_cons_mk (Below.trod laidOut (by kernel_rfl) (of_decide_eq_true (by kernel_rfl)) h0 bel lt0) (trodAll_cons_mk (Below.trod laidOut (by kernel_rfl) (of_decide_eq_true (by kernel_rfl)) h1 bel lt1) (trodAll_cons_mk (Below.trod laidOut (by kernel_rfl) (of_decide_eq_true (by kernel_rfl)) h2 bel lt2) (trodAll_cons_mk (Below.trod laidOut (by kernel_rfl) (of_decide_eq_true (by kernel_rfl)) h3 bel lt3) trodAll_mk0)))), rfl, bel.frame _, fun h => by cases h⟩

theorem leaderSums_holds : Rows.LeaderSumsSaid :=
  OpenClaim.holds_of_wide 7 Try.f7 rfl rfl rfl rfl rfl rfl rfl ⟨rfl, rfl, rfl, rfl, rfl⟩ rfl rfl rfl rfl rfl (by kernel_rfl) Try.func7 (by kernel_rfl)
    (of_decide_eq_true (by kernel_rfl)) (by unfold Func.isWrapper; rw [if_neg (of_decide_eq_false (by kernel_rfl))]; exact ⟨rfl, rfl⟩)
    (fun os started H enc _ => leaderSums_lifted os started H enc)

#print axioms leaderSums_holds

end Go.Proofs.Ytiflbjbcagdlaaa
