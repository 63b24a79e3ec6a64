/-
  For any checks, any word and any word that they all pass: the word that is told passes them, and is no farther from it than any that does: LeaderNear returns true for every number, every list of words and every two words, and changes nothing.
-/
import Derived.Test.YtiflbjbcagdlaaaOpu
import Derived.Test.YtiflbjbcagdlaaaBl
namespace Go.Proofs.Ytiflbjbcagdlaaa
open Go.ChangeShapes Go.WideShapes Go.ChangeAt Go.RowKit Go.Deep
set_option linter.unusedVariables false

theorem leaderNear_rows (n : Int) (x : Um) (hb : ∀ y ∈ x.z, y < 4294967296) (q : Nat) (hq : q < 4294967296) (v : Nat) (hv : v < 4294967296) (w : World) (hx : Us w x) (h : re n x.z ≠ 0) :
    Calls Try.prog 6 #[.int .i64 n, x.v, .int .u32 (q : Nat), .int .u32 (v : Nat)] w fun e w' => e = .returned (.bool true) ∧ Ext w w' := by
  have c1 := fix_any n x hb q hq w hx
  have c2 : Hid (∀ W, Ext w W → Calls Try.prog 14 #[.int .i64 n, x.v] W fun e w' => e = .returned (.bool (re n x.z == 0)) ∧ w' = W) := fun W E => rowed_any n x hb W (hx.ext E)
  rw [we_bad h] at c1
  have hz : (re n x.z == 0) = false := by rw [beq_eq_false_iff_ne]; exact h
  have hz2 : (re n x.z != 0) = true := by rw [bne_iff_ne]; exact h
  rw [hz] at c2
  clear h hb hx hz
  generalize re n x.z = R at *
  generalize fxv n x.z q = F at *
  obtain ⟨a, c, g⟩ := x
  simp only [Um.v] at *
  generalize g.length = gl at *
  go_enter Try.func6, Try.ntmps6
  go_wp2_with fail
  refine c1.mono ?_
  rintro e w1 ⟨rfl, E1⟩
  have X : Hid (Ext w w1) := E1
  have c2' := c2.out w1 E1
  clear c1 c2 E1
  go_wp2_with fail
  refine c2'.mono ?_
  rintro e w2 ⟨rfl, rfl⟩
  clear c2'
  go_wp2
  go_ret
  exact ⟨ret_bool (by simp), X.out⟩

theorem leaderNear_high (n : Nat) (hn : n ≤ 12) (x : Um) (hl : x.z.length ≤ 8) (hb : ∀ y ∈ x.z, y < 2 ^ n) (q : Nat) (hq : q < 4294967296) (v : Nat) (hv : v < 4294967296) (w : World) (hx : Us w x) (h : ¬ q < 2 ^ n) :
    Calls Try.prog 6 #[.int .i64 n, x.v, .int .u32 (q : Nat), .int .u32 (v : Nat)] w fun e w' => e = .returned (.bool true) ∧ Ext w w' := by
  have c1 := fix_any n x (rows_low hn hb) q hq w hx
  have c2 : Hid (∀ W, Ext w W → Calls Try.prog 14 #[.int .i64 (n : Int), x.v] W fun e w' => e = .returned (.bool true) ∧ w' = W) := fun W E => by
    have := rowed_any n x (rows_low hn hb) W (hx.ext E)
    rw [re_good hn hl hb] at this
    exact this
  have c3 : Hid (∀ (W : World), Calls Try.prog 15 #[.int .i64 (n : Int), .slice (some ⟨W.heap.size, 0, none⟩) 1 1] (W.alloc (.cells #[.int .u32 q] 23)) fun e w' => e = .returned (.bool false) ∧ w' = W.alloc (.cells #[.int .u32 q] 23)) := fun W => by
    have := below_one n hn q hq W
    rw [decide_eq_false h] at this
    exact this
  have ew : we n x.z q (n : Int).toNat = 4 := by rw [we_good hn hl hb, Int.toNat_natCast, if_neg h]
  rw [ew] at c1
  clear h hb hx ew
  generalize fxv n x.z q = F at *
  obtain ⟨a, c, g⟩ := x
  simp only [Um.v] at *
  generalize g.length = gl at *
  go_enter Try.func6, Try.ntmps6
  go_wp2_with fail
  refine c1.mono ?_
  rintro e w1 ⟨rfl, E1⟩
  have X : Hid (Ext w (w1.alloc (.cells #[.int .u32 q] 23))) := E1.alloc _
  have c2' := c2.out w1 E1
  have c3' := c3.out w1
  clear c1 c2 c3 E1
  go_wp2_with fail
  refine c2'.mono ?_
  rintro e w2 ⟨rfl, rfl⟩
  clear c2'
  go_wp2_with fail
  refine c3'.mono ?_
  rintro e w3 ⟨rfl, rfl⟩
  clear c3'
  generalize hW : w2.alloc (.cells #[.int .u32 q] 23) = W at *
  clear hW
  go_wp2
  go_ret
  exact ⟨ret_bool (by simp), X.out⟩

theorem leaderNear_other (n : Nat) (hn : n ≤ 12) (x : Um) (hl : x.z.length ≤ 8) (hb : ∀ y ∈ x.z, y < 2 ^ n) (q : Nat) (hq : q < 4294967296) (v : Nat) (hv : v < 4294967296) (w : World) (hx : Us w x) (h : q < 2 ^ n) (hv2 : ¬ v < 2 ^ n) :
    Calls Try.prog 6 #[.int .i64 n, x.v, .int .u32 (q : Nat), .int .u32 (v : Nat)] w fun e w' => e = .returned (.bool true) ∧ Ext w w' := by
  have hM : 2 ^ n ≤ 2 ^ 12 := Nat.pow_le_pow_right (by omega) hn
  have c1 := fix_any n x (rows_low hn hb) q hq w hx
  have c2 : Hid (∀ W, Ext w W → Calls Try.prog 14 #[.int .i64 (n : Int), x.v] W fun e w' => e = .returned (.bool true) ∧ w' = W) := fun W E => by
    have := rowed_any n x (rows_low hn hb) W (hx.ext E)
    rw [re_good hn hl hb] at this
    exact this
  have c3 : Hid (∀ (z : Nat) (W : World), z < 2 ^ n → Calls Try.prog 15 #[.int .i64 (n : Int), .slice (some ⟨W.heap.size, 0, none⟩) 1 1] (W.alloc (.cells #[.int .u32 (z : Nat)] 23)) fun e w' => e = .returned (.bool true) ∧ w' = W.alloc (.cells #[.int .u32 (z : Nat)] 23)) := fun z W hz => by
    have := below_one n hn z (by omega) W
    rw [decide_eq_true hz] at this
    exact this
  have c4o : Hid (∀ z W, z < 4294967296 → Ext w W → Calls Try.prog 8 #[.int .i64 (n : Int), x.v, .int .u32 (z : Nat)] W fun e w' => e = .returned (.tuple #[.int .u32 (if we n x.z z n = 0 then mk x.z z else 0 : Nat), .int .i64 (we n x.z z n)]) ∧ Ext W w') := fun z W hz E => mark_any n x (rows_low hn hb) z hz W (hx.ext E)
  have c5 : Hid (∀ z W, z < 4294967296 → Calls Try.prog 16 #[.int .u32 (q : Nat), .int .u32 (z : Nat)] W fun e w' => e = .returned (.int .i64 (far q z : Nat)) ∧ w' = W) := fun z W hz => refApart_any q z hq hz W
  have ew : we n x.z q (n : Int).toNat = 0 := by rw [we_good hn hl hb, Int.toNat_natCast, if_pos h]
  obtain ⟨l, hll⟩ := bst_has (f := mk x.z) h
  obtain ⟨p1, p2, p3⟩ := fix_plain h hll
  have ev : fxv n x.z q = q ^^^ l := by
    unfold fxv ldr
    rw [if_pos ew, Int.toNat_natCast, hll]
    rfl
  have c6 : Hid (∀ W, Ext w W → Calls Try.prog 8 #[.int .i64 (n : Int), x.v, .int .u32 (q ^^^ l : Nat)] W fun e w' => e = .returned (.tuple #[.int .u32 0, .int .i64 0]) ∧ Ext W w') := fun W E => by
    have := c4o.out (q ^^^ l) W (by omega) E
    rw [we_good hn hl hb, if_pos p1, if_pos rfl, p2] at this
    exact this
  rw [ev, ew] at c1
  have hqn := h
  have c4 : Hid (∀ W, Ext w W → Calls Try.prog 8 #[.int .i64 (n : Int), x.v, .int .u32 (v : Nat)] W fun e w' => e = .returned (.tuple #[.int .u32 0, .int .i64 4]) ∧ Ext W w') := fun W E => by
    have := c4o.out v W hv E
    rw [we_good hn hl hb, if_neg hv2, if_neg (by decide)] at this
    exact this
  clear c4o p2 p3 c5 hv2
  generalize q ^^^ l = Y at *
  generalize 2 ^ n = M at *
  clear h hb hx ew ev hll
  obtain ⟨a, c, g⟩ := x
  simp only [Um.v] at *
  generalize g.length = gl at *
  go_enter Try.func6, Try.ntmps6
  go_wp2_with fail
  refine c1.mono ?_
  rintro e w1 ⟨rfl, E1⟩
  have X1 : Hid (Ext w (w1.alloc (.cells #[.int .u32 q] 23))) := E1.alloc _
  have c2' := c2.out w1 E1
  have c3' := c3.out q w1 hqn
  clear c1 c2 E1
  go_wp2_with fail
  refine c2'.mono ?_
  rintro e w2 ⟨rfl, rfl⟩
  clear c2'
  go_wp2_with fail
  refine c3'.mono ?_
  rintro e w3 ⟨rfl, rfl⟩
  clear c3'
  have c6' := c6.out _ X1.out
  generalize hW : w2.alloc (.cells #[.int .u32 q] 23) = W at *
  clear hW c6
  go_wp2_with fail
  refine c6'.mono ?_
  rintro e w4 ⟨rfl, E4⟩
  have X4 : Hid (Ext w w4) := X1.out.trans E4
  have X5 : Hid (Ext w (w4.alloc (.cells #[.int .u32 (Y : Nat)] 23))) := X4.out.alloc _
  have c3' := c3.out Y w4 p1
  clear c6' c3 E4 X1
  go_wp2_with fail
  refine c3'.mono ?_
  rintro e w5 ⟨rfl, rfl⟩
  clear c3'
  have c4' := c4.out _ X5.out
  generalize hW2 : w4.alloc (.cells #[.int .u32 (Y : Nat)] 23) = W2 at *
  clear hW2 c4
  go_wp2_with fail
  refine c4'.mono ?_
  rintro e w6 ⟨rfl, E6⟩
  have X : Hid (Ext w w6) := X5.out.trans E6
  clear c4' E6 X5 X4
  go_wp2
  go_ret
  exact ⟨ret_bool (by simp), X.out⟩

theorem leaderNear_fails (n : Nat) (hn : n ≤ 12) (x : Um) (hl : x.z.length ≤ 8) (hb : ∀ y ∈ x.z, y < 2 ^ n) (q : Nat) (hq : q < 4294967296) (v : Nat) (hv : v < 4294967296) (w : World) (hx : Us w x) (h : q < 2 ^ n) (hv2 : v < 2 ^ n) (hm : mk x.z v ≠ 0) :
    Calls Try.prog 6 #[.int .i64 n, x.v, .int .u32 (q : Nat), .int .u32 (v : Nat)] w fun e w' => e = .returned (.bool true) ∧ Ext w w' := by
  have hM : 2 ^ n ≤ 2 ^ 12 := Nat.pow_le_pow_right (by omega) hn
  have c1 := fix_any n x (rows_low hn hb) q hq w hx
  have c2 : Hid (∀ W, Ext w W → Calls Try.prog 14 #[.int .i64 (n : Int), x.v] W fun e w' => e = .returned (.bool true) ∧ w' = W) := fun W E => by
    have := rowed_any n x (rows_low hn hb) W (hx.ext E)
    rw [re_good hn hl hb] at this
    exact this
  have c3 : Hid (∀ (z : Nat) (W : World), z < 2 ^ n → Calls Try.prog 15 #[.int .i64 (n : Int), .slice (some ⟨W.heap.size, 0, none⟩) 1 1] (W.alloc (.cells #[.int .u32 (z : Nat)] 23)) fun e w' => e = .returned (.bool true) ∧ w' = W.alloc (.cells #[.int .u32 (z : Nat)] 23)) := fun z W hz => by
    have := below_one n hn z (by omega) W
    rw [decide_eq_true hz] at this
    exact this
  have c4o : Hid (∀ z W, z < 4294967296 → Ext w W → Calls Try.prog 8 #[.int .i64 (n : Int), x.v, .int .u32 (z : Nat)] W fun e w' => e = .returned (.tuple #[.int .u32 (if we n x.z z n = 0 then mk x.z z else 0 : Nat), .int .i64 (we n x.z z n)]) ∧ Ext W w') := fun z W hz E => mark_any n x (rows_low hn hb) z hz W (hx.ext E)
  have c5 : Hid (∀ z W, z < 4294967296 → Calls Try.prog 16 #[.int .u32 (q : Nat), .int .u32 (z : Nat)] W fun e w' => e = .returned (.int .i64 (far q z : Nat)) ∧ w' = W) := fun z W hz => refApart_any q z hq hz W
  have ew : we n x.z q (n : Int).toNat = 0 := by rw [we_good hn hl hb, Int.toNat_natCast, if_pos h]
  obtain ⟨l, hll⟩ := bst_has (f := mk x.z) h
  obtain ⟨p1, p2, p3⟩ := fix_plain h hll
  have ev : fxv n x.z q = q ^^^ l := by
    unfold fxv ldr
    rw [if_pos ew, Int.toNat_natCast, hll]
    rfl
  have c6 : Hid (∀ W, Ext w W → Calls Try.prog 8 #[.int .i64 (n : Int), x.v, .int .u32 (q ^^^ l : Nat)] W fun e w' => e = .returned (.tuple #[.int .u32 0, .int .i64 0]) ∧ Ext W w') := fun W E => by
    have := c4o.out (q ^^^ l) W (by omega) E
    rw [we_good hn hl hb, if_pos p1, if_pos rfl, p2] at this
    exact this
  rw [ev, ew] at c1
  have hqn := h
  have c4 : Hid (∀ W, Ext w W → Calls Try.prog 8 #[.int .i64 (n : Int), x.v, .int .u32 (v : Nat)] W fun e w' => e = .returned (.tuple #[.int .u32 (mk x.z v : Nat), .int .i64 0]) ∧ Ext W w') := fun W E => by
    have := c4o.out v W hv E
    rw [we_good hn hl hb, if_pos hv2, if_pos rfl] at this
    exact this
  have hz : (((mk x.z v : Nat) : Int) != 0) = true := by rw [bne_iff_ne]; omega
  clear c4o p2 p3 c5 hv2 hm
  generalize mk x.z v = MV at *
  generalize q ^^^ l = Y at *
  generalize 2 ^ n = M at *
  clear h hb hx ew ev hll
  obtain ⟨a, c, g⟩ := x
  simp only [Um.v] at *
  generalize g.length = gl at *
  go_enter Try.func6, Try.ntmps6
  go_wp2_with fail
  refine c1.mono ?_
  rintro e w1 ⟨rfl, E1⟩
  have X1 : Hid (Ext w (w1.alloc (.cells #[.int .u32 q] 23))) := E1.alloc _
  have c2' := c2.out w1 E1
  have c3' := c3.out q w1 hqn
  clear c1 c2 E1
  go_wp2_with fail
  refine c2'.mono ?_
  rintro e w2 ⟨rfl, rfl⟩
  clear c2'
  go_wp2_with fail
  refine c3'.mono ?_
  rintro e w3 ⟨rfl, rfl⟩
  clear c3'
  have c6' := c6.out _ X1.out
  generalize hW : w2.alloc (.cells #[.int .u32 q] 23) = W at *
  clear hW c6
  go_wp2_with fail
  refine c6'.mono ?_
  rintro e w4 ⟨rfl, E4⟩
  have X4 : Hid (Ext w w4) := X1.out.trans E4
  have X5 : Hid (Ext w (w4.alloc (.cells #[.int .u32 (Y : Nat)] 23))) := X4.out.alloc _
  have c3' := c3.out Y w4 p1
  clear c6' c3 E4 X1
  go_wp2_with fail
  refine c3'.mono ?_
  rintro e w5 ⟨rfl, rfl⟩
  clear c3'
  have c4' := c4.out _ X5.out
  generalize hW2 : w4.alloc (.cells #[.int .u32 (Y : Nat)] 23) = W2 at *
  clear hW2 c4
  go_wp2_with fail
  refine c4'.mono ?_
  rintro e w6 ⟨rfl, E6⟩
  have X : Hid (Ext w w6) := X5.out.trans E6
  clear c4' E6 X5 X4
  go_wp2
  go_ret
  exact ⟨ret_bool (by simp), X.out⟩

theorem leaderNear_passes (n : Nat) (hn : n ≤ 12) (x : Um) (hl : x.z.length ≤ 8) (hb : ∀ y ∈ x.z, y < 2 ^ n) (q : Nat) (hq : q < 4294967296) (v : Nat) (hv : v < 4294967296) (w : World) (hx : Us w x) (h : q < 2 ^ n) (hv2 : v < 2 ^ n) (hm : mk x.z v = 0) :
    Calls Try.prog 6 #[.int .i64 n, x.v, .int .u32 (q : Nat), .int .u32 (v : Nat)] w fun e w' => e = .returned (.bool true) ∧ Ext w w' := by
  have hM : 2 ^ n ≤ 2 ^ 12 := Nat.pow_le_pow_right (by omega) hn
  have c1 := fix_any n x (rows_low hn hb) q hq w hx
  have c2 : Hid (∀ W, Ext w W → Calls Try.prog 14 #[.int .i64 (n : Int), x.v] W fun e w' => e = .returned (.bool true) ∧ w' = W) := fun W E => by
    have := rowed_any n x (rows_low hn hb) W (hx.ext E)
    rw [re_good hn hl hb] at this
    exact this
  have c3 : Hid (∀ (z : Nat) (W : World), z < 2 ^ n → Calls Try.prog 15 #[.int .i64 (n : Int), .slice (some ⟨W.heap.size, 0, none⟩) 1 1] (W.alloc (.cells #[.int .u32 (z : Nat)] 23)) fun e w' => e = .returned (.bool true) ∧ w' = W.alloc (.cells #[.int .u32 (z : Nat)] 23)) := fun z W hz => by
    have := below_one n hn z (by omega) W
    rw [decide_eq_true hz] at this
    exact this
  have c4o : Hid (∀ z W, z < 4294967296 → Ext w W → Calls Try.prog 8 #[.int .i64 (n : Int), x.v, .int .u32 (z : Nat)] W fun e w' => e = .returned (.tuple #[.int .u32 (if we n x.z z n = 0 then mk x.z z else 0 : Nat), .int .i64 (we n x.z z n)]) ∧ Ext W w') := fun z W hz E => mark_any n x (rows_low hn hb) z hz W (hx.ext E)
  have c5 : Hid (∀ z W, z < 4294967296 → Calls Try.prog 16 #[.int .u32 (q : Nat), .int .u32 (z : Nat)] W fun e w' => e = .returned (.int .i64 (far q z : Nat)) ∧ w' = W) := fun z W hz => refApart_any q z hq hz W
  have ew : we n x.z q (n : Int).toNat = 0 := by rw [we_good hn hl hb, Int.toNat_natCast, if_pos h]
  obtain ⟨l, hll⟩ := bst_has (f := mk x.z) h
  obtain ⟨p1, p2, p3⟩ := fix_plain h hll
  have ev : fxv n x.z q = q ^^^ l := by
    unfold fxv ldr
    rw [if_pos ew, Int.toNat_natCast, hll]
    rfl
  have c6 : Hid (∀ W, Ext w W → Calls Try.prog 8 #[.int .i64 (n : Int), x.v, .int .u32 (q ^^^ l : Nat)] W fun e w' => e = .returned (.tuple #[.int .u32 0, .int .i64 0]) ∧ Ext W w') := fun W E => by
    have := c4o.out (q ^^^ l) W (by omega) E
    rw [we_good hn hl hb, if_pos p1, if_pos rfl, p2] at this
    exact this
  rw [ev, ew] at c1
  have hqn := h
  have c4 : Hid (∀ W, Ext w W → Calls Try.prog 8 #[.int .i64 (n : Int), x.v, .int .u32 (v : Nat)] W fun e w' => e = .returned (.tuple #[.int .u32 0, .int .i64 0]) ∧ Ext W w') := fun W E => by
    have := c4o.out v W hv E
    rw [we_good hn hl hb, if_pos hv2, if_pos rfl, hm] at this
    exact this
  have le1 := p3 v hv2 hm
  have c5x : Hid (∀ W, Calls Try.prog 16 #[.int .u32 (q : Nat), .int .u32 (q ^^^ l : Nat)] W fun e w' => e = .returned (.int .i64 (far q (q ^^^ l) : Nat)) ∧ w' = W) := fun W => c5.out _ W (by omega)
  have c5y : Hid (∀ W, Calls Try.prog 16 #[.int .u32 (q : Nat), .int .u32 (v : Nat)] W fun e w' => e = .returned (.int .i64 (far q v : Nat)) ∧ w' = W) := fun W => c5.out _ W hv
  clear c4o p2 p3 c5 hv2 hm
  generalize far q v = D1 at *
  generalize far q (q ^^^ l) = D2 at *
  generalize q ^^^ l = Y at *
  generalize 2 ^ n = M at *
  clear h hb hx ew ev hll
  obtain ⟨a, c, g⟩ := x
  simp only [Um.v] at *
  generalize g.length = gl at *
  go_enter Try.func6, Try.ntmps6
  go_wp2_with fail
  refine c1.mono ?_
  rintro e w1 ⟨rfl, E1⟩
  have X1 : Hid (Ext w (w1.alloc (.cells #[.int .u32 q] 23))) := E1.alloc _
  have c2' := c2.out w1 E1
  have c3' := c3.out q w1 hqn
  clear c1 c2 E1
  go_wp2_with fail
  refine c2'.mono ?_
  rintro e w2 ⟨rfl, rfl⟩
  clear c2'
  go_wp2_with fail
  refine c3'.mono ?_
  rintro e w3 ⟨rfl, rfl⟩
  clear c3'
  have c6' := c6.out _ X1.out
  generalize hW : w2.alloc (.cells #[.int .u32 q] 23) = W at *
  clear hW c6
  go_wp2_with fail
  refine c6'.mono ?_
  rintro e w4 ⟨rfl, E4⟩
  have X4 : Hid (Ext w w4) := X1.out.trans E4
  have X5 : Hid (Ext w (w4.alloc (.cells #[.int .u32 (Y : Nat)] 23))) := X4.out.alloc _
  have c3' := c3.out Y w4 p1
  clear c6' c3 E4 X1
  go_wp2_with fail
  refine c3'.mono ?_
  rintro e w5 ⟨rfl, rfl⟩
  clear c3'
  have c4' := c4.out _ X5.out
  generalize hW2 : w4.alloc (.cells #[.int .u32 (Y : Nat)] 23) = W2 at *
  clear hW2 c4
  go_wp2_with fail
  refine c4'.mono ?_
  rintro e w6 ⟨rfl, E6⟩
  have X : Hid (Ext w w6) := X5.out.trans E6
  clear c4' E6 X5 X4
  have c5a := c5x.out w6
  have c5b := c5y.out w6
  clear c5x c5y
  go_wp2_with fail
  refine c5a.mono ?_
  rintro e w7 ⟨rfl, rfl⟩
  clear c5a
  go_wp2_with fail
  refine c5b.mono ?_
  rintro e w8 ⟨rfl, rfl⟩
  clear c5b
  go_wp2
  go_ret
  exact ⟨ret_bool (by simp), X.out⟩

theorem leaderNear_walk (n : Int) (x : Um) (hb : ∀ y ∈ x.z, y < 4294967296) (q : Int) (hw : (Lit.int .u32 q).wf = true) (v : Int) (hw2 : (Lit.int .u32 v).wf = true) (w : World) (hx : Us w x) :
    Calls Try.prog 6 #[.int .i64 n, x.v, .int .u32 q, .int .u32 v] w fun e w' => e = .returned (.bool true) ∧ Ext w w' := by
  have hq' : 0 ≤ q ∧ q < 4294967296 := u32_in hw
  obtain ⟨m, rfl⟩ : ∃ m : Nat, q = m := ⟨q.toNat, by omega⟩
  have hv' : 0 ≤ v ∧ v < 4294967296 := u32_in hw2
  obtain ⟨k, rfl⟩ : ∃ k : Nat, v = k := ⟨v.toNat, by omega⟩
  by_cases h : re n x.z = 0
  · obtain ⟨s, rfl, h1, h2, h3⟩ := re_zero h
    by_cases a1 : m < 2 ^ s
    · by_cases a2 : k < 2 ^ s
      · by_cases a3 : mk x.z k = 0
        · exact leaderNear_passes s h1 x h2 h3 m (by omega) k (by omega) w hx a1 a2 a3
        · exact leaderNear_fails s h1 x h2 h3 m (by omega) k (by omega) w hx a1 a2 a3
      · exact leaderNear_other s h1 x h2 h3 m (by omega) k (by omega) w hx a1 a2
    · exact leaderNear_high s h1 x h2 h3 m (by omega) k (by omega) w hx a1
  · exact leaderNear_rows n x hb m (by omega) k (by omega) w hx h

set_option maxRecDepth 100000 in
theorem leaderNear_lifted (os : Os) (started : os.Started) (H : Type) (enc : TypeId × Value → H) :
    ReturnsInHanded {} Try.checked os 6 .any (Rows.leaderNearSpec.pre6 enc Try.prog Try.f6 Rows.leaderNearRow.domain false) (Rows.leaderNearSpec.post enc Try.prog Try.f6 false true false false) := by
  refine returnsInHanded_of_change (C := Try.checked) own started (by kernel_rfl) Try.func6
    (ChangeSpec.witness6 (enc := enc) (C := Try.checked) false ⟨#[], #[.int .i64 0, .slice none 0 0, .int .u32 0, .int .u32 0], []⟩ 8 (by kernel_rfl) (by kernel_rfl) (by kernel_rfl) (by kernel_rfl)) ?_
  intro W base args ds gs before hval0 hW _ _
  have hval : ∀ (j : Nat) t v, Try.f6.params[j]? = some t → args[j]? = some v → Value.okWide Try.prog W .any base t v := hval0
  have hW' := hW
  obtain ⟨p, q, hA0, hV, rfl, hfz, hnd⟩ := hW
  have hA : DataW.TrodAll enc Try.prog W 0 (fun _ => true) true Try.f6.params.toList args.toList ds p := hA0
  rw [Try.params6] at hA hval
  obtain ⟨v0, vs0, d0, ds0, p0, q0, hargs, rfl, rfl, h0, r0⟩ := trodAll_cons hA
  obtain ⟨v1, vs1, d1, ds1, p1, q1, rfl, rfl, rfl, h1, r1⟩ := trodAll_cons r0
  obtain ⟨v2, vs2, d2, ds2, p2, q2, rfl, rfl, rfl, h2, r2⟩ := trodAll_cons r1
  obtain ⟨v3, vs3, d3, ds3, p3, q3, rfl, rfl, rfl, h3, r3⟩ := trodAll_cons r2
  obtain ⟨rfl, rfl, rfl⟩ := trodAll_nil r3
  obtain rfl : args = #[v0, v1, v2, v3] := by cases args; simp_all
  obtain ⟨rfl, rfl⟩ := trodVars_none hV
  have lt0 : ∀ x ∈ p0, x.block < W.heap.size := by obtain ⟨m, hm⟩ := h0; exact DataW.trod_lt m _ _ _ hm
  obtain ⟨x0, rfl, -, -, wf0⟩ := open_int Try.underlying3 (hval 0 3 v0 rfl rfl) h0
  have lt1 : ∀ x ∈ p1, x.block < W.heap.size := by obtain ⟨m, hm⟩ := h1; exact DataW.trod_lt m _ _ _ hm
  obtain ⟨x1, rfl, w1, b1⟩ := open_us (hval 1 22 v1 rfl rfl) h1
  have lt2 : ∀ x ∈ p2, x.block < W.heap.size := by obtain ⟨m, hm⟩ := h2; exact DataW.trod_lt m _ _ _ hm
  obtain ⟨x2, rfl, -, -, wf2⟩ := open_int Try.underlying23 (hval 2 23 v2 rfl rfl) h2
  have lt3 : ∀ x ∈ p3, x.block < W.heap.size := by obtain ⟨m, hm⟩ := h3; exact DataW.trod_lt m _ _ _ hm
  obtain ⟨x3, rfl, -, -, wf3⟩ := open_int Try.underlying23 (hval 3 23 v3 rfl rfl) h3
  clear hA0 hval0
  refine (leaderNear_walk x0 x1 b1 x2 wf2 x3 wf3 W w1).mono fun e W' ⟨he, bel⟩ => ?_
  subst he
  exact ⟨_, rfl, _, _, _, [], _, [], hW', trodAll_mk1 (shut_bool Try.underlying4 _), (trodAll_cons_mk (Below.trod laidOut (by kernel_rfl) (of_decide_eq_true (by kernel_rfl)) h0 bel lt0) (trodAll_cons_mk (Below.trod laidOut (by kernel_rfl) (of_decide_eq_true (by kernel_rfl)) h1 bel lt1) (trodAll_cons_mk (Below.trod laidOut (by kernel_rfl) (of_decide_eq_true (by kernel_rfl)) h2 bel lt2) (trodAll_cons_mk (Below.trod laidOut (by kernel_rfl) (of_decide_eq_true (by kernel_rfl)) h3 bel lt3) trodAll_mk0)))), rfl, bel.frame _, fun h => by cases h⟩

theorem leaderNear_holds : Rows.LeaderNearSaid :=
  OpenClaim.holds_of_wide 6 Try.f6 rfl rfl rfl rfl rfl rfl rfl ⟨rfl, rfl, rfl, rfl, rfl⟩ rfl rfl rfl rfl rfl (by kernel_rfl) Try.func6 (by kernel_rfl)
    (of_decide_eq_true (by kernel_rfl)) (by unfold Func.isWrapper; rw [if_neg (of_decide_eq_false (by kernel_rfl))]; exact ⟨rfl, rfl⟩)
    (fun os started H enc _ => leaderNear_lifted os started H enc)

#print axioms leaderNear_holds

end Go.Proofs.Ytiflbjbcagdlaaa
