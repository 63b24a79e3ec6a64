/-
  For any checks and any word: a step makes fewer bad ones, and no step is left out where one does: FlipFewer returns true for every number, every list of words and every word, and changes nothing.
-/
import Derived.Test.YtabjliijojidmaaOpu
import Derived.Test.YtabjliijojidmaaLw
namespace Go.Proofs.Ytabjliijojidmaa
open Go.ChangeShapes Go.WideShapes Go.ChangeAt Go.RowKit Go.Deep
set_option linter.unusedVariables false

theorem flipFewer_rows (n : Int) (x : Um) (hb : ∀ y ∈ x.z, y < 4294967296) (q : Nat) (hq : q < 4294967296) (w : World) (hx : Us w x) (h : re n x.z ≠ 0) :
    Calls Try.prog 6 #[.int .i64 n, x.v, .int .u32 (q : Nat)] w fun e w' => e = .returned (.bool true) ∧ Ext w w' := by
  have hwe : we n x.z q n.toNat ≠ 0 := by rw [we_bad h]; exact h
  have c1 := fStep_bad n x hb q hq w hx hwe
  have c2 : Hid (∀ W, Ext w W → Calls Try.prog 8 #[.int .i64 n, x.v, .int .u32 (q : Nat)] W fun e w' => e = .returned (.tuple #[.int .i64 0, .int .i64 (we n x.z q n.toNat)]) ∧ Ext W w') := fun W E => fBad_bad n x hb q hq W (hx.ext E) hwe
  have c3 : Hid (∀ W, Ext w W → Calls Try.prog 14 #[.int .i64 n, x.v] W fun e w' => e = .returned (.bool false) ∧ w' = W) := fun W E => by
    have := rowed_any n x hb W (hx.ext E)
    rw [show (re n x.z == 0) = false by rw [beq_eq_false_iff_ne]; exact h] at this
    exact this
  have hz : (we n x.z q n.toNat != 0) = true := by rw [bne_iff_ne]; exact hwe
  clear h hb hx hwe
  generalize we n x.z q n.toNat = R at *
  obtain ⟨a, c, g⟩ := x
  simp only [Um.v] at *
  generalize g.length = gl at *
  go_enter Try.func6, Try.ntmps6
  go_wp2_with fail
  refine c1.mono ?_
  rintro e w1 ⟨rfl, E1⟩
  have X1 : Hid (Ext w w1) := E1
  have c2' := c2.out w1 E1
  clear c1 c2 E1
  go_wp2_with fail
  refine c2'.mono ?_
  rintro e w2 ⟨rfl, E2⟩
  have X2 : Hid (Ext w w2) := X1.out.trans E2
  have c3' := c3.out w2 X2.out
  clear c2' c3 E2 X1
  go_wp2_with fail
  refine c3'.mono ?_
  rintro e w3 ⟨rfl, rfl⟩
  clear c3'
  go_wp2
  go_ret
  exact ⟨ret_bool (by simp), X2.out⟩

theorem flipFewer_high (n : Nat) (hn : n ≤ 12) (x : Um) (hl : x.z.length ≤ 8) (hb : ∀ y ∈ x.z, y < 2 ^ n) (q : Nat) (hq : q < 4294967296) (w : World) (hx : Us w x) (h : ¬ q < 2 ^ n) :
    Calls Try.prog 6 #[.int .i64 (n : Int), x.v, .int .u32 (q : Nat)] w fun e w' => e = .returned (.bool true) ∧ Ext w w' := by
  have ew : we n x.z q (n : Int).toNat = 4 := by rw [we_good hn hl hb, Int.toNat_natCast, if_neg h]
  have hwe : we n x.z q (n : Int).toNat ≠ 0 := by rw [ew]; decide
  have c1 := fStep_bad n x (rows_low hn hb) q hq w hx hwe
  have c2 : Hid (∀ W, Ext w W → Calls Try.prog 8 #[.int .i64 (n : Int), x.v, .int .u32 (q : Nat)] W fun e w' => e = .returned (.tuple #[.int .i64 0, .int .i64 4]) ∧ Ext W w') := fun W E => by
    have := fBad_bad n x (rows_low hn hb) q hq W (hx.ext E) hwe
    rw [ew] at this
    exact this
  have c3 : Hid (∀ W, Ext w W → Calls Try.prog 14 #[.int .i64 (n : Int), x.v] W fun e w' => e = .returned (.bool true) ∧ w' = W) := fun W E => rows_yes n hn x hl hb W (hx.ext E)
  have c4 : Hid (∀ (W : World), Calls Try.prog 15 #[.int .i64 (n : Int), .slice (some ⟨W.heap.size, 0, none⟩) 1 1] (W.alloc (.cells #[.int .u32 q] 23)) fun e w' => e = .returned (.bool false) ∧ w' = W.alloc (.cells #[.int .u32 q] 23)) := fun W => below_no n hn q hq h W
  rw [ew] at c1
  clear h hb hx ew hwe
  obtain ⟨a, c, g⟩ := x
  simp only [Um.v] at *
  generalize g.length = gl at *
  go_enter Try.func6, Try.ntmps6
  go_wp2_with fail
  refine c1.mono ?_
  rintro e w1 ⟨rfl, E1⟩
  have X1 : Hid (Ext w w1) := E1
  have c2' := c2.out w1 E1
  clear c1 c2 E1
  go_wp2_with fail
  refine c2'.mono ?_
  rintro e w2 ⟨rfl, E2⟩
  have X2 : Hid (Ext w w2) := X1.out.trans E2
  have X : Hid (Ext w (w2.alloc (.cells #[.int .u32 q] 23))) := X2.out.alloc _
  have c3' := c3.out w2 X2.out
  have c4' := c4.out w2
  clear c2' c3 c4 E2 X1 X2
  go_wp2_with fail
  refine c3'.mono ?_
  rintro e w3 ⟨rfl, rfl⟩
  clear c3'
  go_wp2_with fail
  refine c4'.mono ?_
  rintro e w4 ⟨rfl, rfl⟩
  clear c4'
  generalize hW : w3.alloc (.cells #[.int .u32 q] 23) = W at *
  clear hW
  go_wp2
  go_ret
  exact ⟨ret_bool (by simp), X.out⟩

theorem flipFewer_step (n : Nat) (hn : n ≤ 12) (x : Um) (hl : x.z.length ≤ 8) (hb : ∀ y ∈ x.z, y < 2 ^ n) (q : Nat) (hq : q < 2 ^ n) (w : World) (hx : Us w x) (h : fis x.z n q = true) :
    Calls Try.prog 6 #[.int .i64 (n : Int), x.v, .int .u32 (q : Nat)] w fun e w' => e = .returned (.bool true) ∧ Ext w w' := by
  have hp : 2 ^ n ≤ 2 ^ 12 := Nat.pow_le_pow_right (by omega) hn
  have c1 := fStep_good n hn x hl hb q hq w hx
  rw [h] at c1
  have BADC : Hid (∀ z W, z < 2 ^ n → Ext w W → Calls Try.prog 8 #[.int .i64 (n : Int), x.v, .int .u32 (z : Nat)] W fun e w' => e = .returned (.tuple #[.int .i64 (bd x.z z : Nat), .int .i64 0]) ∧ Ext W w') := fun z W hz E => fBad_good n hn x hl hb z hz W (hx.ext E)
  have c3 : Hid (∀ W, Ext w W → Calls Try.prog 14 #[.int .i64 (n : Int), x.v] W fun e w' => e = .returned (.bool true) ∧ w' = W) := fun W E => rows_yes n hn x hl hb W (hx.ext E)
  have c4 : Hid (∀ (W : World), Calls Try.prog 15 #[.int .i64 (n : Int), .slice (some ⟨W.heap.size, 0, none⟩) 1 1] (W.alloc (.cells #[.int .u32 q] 23)) fun e w' => e = .returned (.bool true) ∧ w' = W.alloc (.cells #[.int .u32 q] 23)) := fun W => below_yes n hn q hq W
  have hv : fw x.z n q < 2 ^ n := fw_lt hq
  obtain ⟨l1, l2⟩ := fw_less hn h
  have c6 : Hid (∀ W, Calls Try.prog 16 #[.int .u32 (fw x.z n q : Nat), .int .u32 (q : Nat)] W fun e w' => e = .returned (.int .i64 1) ∧ w' = W) := fun W => by
    have := refApart_any (fw x.z n q) q (by omega) (by omega) W
    rw [l2] at this
    exact this
  have l3 : (bd x.z (fw x.z n q) : Int) < (bd x.z q : Int) := by omega
  clear h hb hx l2 l1
  generalize fw x.z n q = V at *
  generalize bd x.z = D at *
  obtain ⟨a, c, g⟩ := x
  simp only [Um.v] at *
  generalize g.length = gl at *
  go_enter Try.func6, Try.ntmps6
  go_wp2_with fail
  refine c1.mono ?_
  rintro e w1 ⟨rfl, E1⟩
  have X1 : Hid (Ext w w1) := E1
  have c2 := BADC.out q w1 hq E1
  clear c1 E1
  go_wp2_with fail
  refine c2.mono ?_
  rintro e w2 ⟨rfl, E2⟩
  have X2 : Hid (Ext w w2) := X1.out.trans E2
  have X : Hid (Ext w (w2.alloc (.cells #[.int .u32 q] 23))) := X2.out.alloc _
  have c3' := c3.out w2 X2.out
  have c4' := c4.out w2
  clear c2 c3 c4 E2 X1 X2
  go_wp2_with fail
  refine c3'.mono ?_
  rintro e w3 ⟨rfl, rfl⟩
  clear c3'
  go_wp2_with fail
  refine c4'.mono ?_
  rintro e w4 ⟨rfl, rfl⟩
  clear c4'
  generalize hW : w3.alloc (.cells #[.int .u32 q] 23) = W at *
  clear hW
  have c5 := BADC.out V W hv X.out
  clear BADC
  go_wp2_with fail
  refine c5.mono ?_
  rintro e w5 ⟨rfl, E5⟩
  have X5 : Hid (Ext w w5) := X.out.trans E5
  have c6' := c6.out w5
  clear c5 c6 E5 X
  generalize D V = b at *
  generalize D q = d at *
  go_wp2_with fail
  refine c6'.mono ?_
  rintro e w6 ⟨rfl, rfl⟩
  clear c6'
  go_wp2
  go_ret
  exact ⟨ret_bool (by simp), X5.out⟩

theorem flipFewer_none (n : Nat) (hn : n ≤ 12) (x : Um) (hl : x.z.length ≤ 8) (hb : ∀ y ∈ x.z, y < 2 ^ n) (q : Nat) (hq : q < 2 ^ n) (w : World) (hx : Us w x) (h : fis x.z n q = false) :
    Calls Try.prog 6 #[.int .i64 (n : Int), x.v, .int .u32 (q : Nat)] w fun e w' => e = .returned (.bool true) ∧ Ext w w' := by
  have hp : 2 ^ n ≤ 2 ^ 12 := Nat.pow_le_pow_right (by omega) hn
  have c1 := fStep_good n hn x hl hb q hq w hx
  rw [h, fw_same h] at c1
  have BADC : Hid (∀ z W, z < 2 ^ n → Ext w W → Calls Try.prog 8 #[.int .i64 (n : Int), x.v, .int .u32 (z : Nat)] W fun e w' => e = .returned (.tuple #[.int .i64 (bd x.z z : Nat), .int .i64 0]) ∧ Ext W w') := fun z W hz E => fBad_good n hn x hl hb z hz W (hx.ext E)
  have c3 : Hid (∀ W, Ext w W → Calls Try.prog 14 #[.int .i64 (n : Int), x.v] W fun e w' => e = .returned (.bool true) ∧ w' = W) := fun W E => rows_yes n hn x hl hb W (hx.ext E)
  have c4 : Hid (∀ (W : World), Calls Try.prog 15 #[.int .i64 (n : Int), .slice (some ⟨W.heap.size, 0, none⟩) 1 1] (W.alloc (.cells #[.int .u32 q] 23)) fun e w' => e = .returned (.bool true) ∧ w' = W.alloc (.cells #[.int .u32 q] 23)) := fun W => below_yes n hn q hq W
  have XL : Hid (∀ i, i < n → q ^^^ 2 ^ i < 2 ^ n) := fun i hi => turn_lt hq hi
  have BEST : Hid (∀ i, i < n → bd x.z q ≤ bd x.z (q ^^^ 2 ^ i)) := fun i hi => fw_best h hi
  have hq2 : q < 4096 := by omega
  have hM : 2 ^ n ≤ 4096 := hp
  clear h hb hx hp
  generalize 2 ^ n = M at *
  generalize bd x.z = D at *
  obtain ⟨a, c, g⟩ := x
  simp only [Um.v] at *
  generalize g.length = gl at *
  go_enter Try.func6, Try.ntmps6
  go_wp2_with fail
  refine c1.mono ?_
  rintro e w1 ⟨rfl, E1⟩
  have X1 : Hid (Ext w w1) := E1
  have c2 := BADC.out q w1 hq E1
  clear c1 E1
  go_wp2_with fail
  refine c2.mono ?_
  rintro e w2 ⟨rfl, E2⟩
  have X2 : Hid (Ext w w2) := X1.out.trans E2
  have X : Hid (Ext w (w2.alloc (.cells #[.int .u32 q] 23))) := X2.out.alloc _
  have c3' := c3.out w2 X2.out
  have c4' := c4.out w2
  clear c2 c3 c4 E2 X1 X2
  go_wp2_with fail
  refine c3'.mono ?_
  rintro e w3 ⟨rfl, rfl⟩
  clear c3'
  go_wp2_with fail
  refine c4'.mono ?_
  rintro e w4 ⟨rfl, rfl⟩
  clear c4'
  generalize hW : w3.alloc (.cells #[.int .u32 q] 23) = W at *
  clear hW
  have c5 := BADC.out q W hq X.out
  go_wp2_with fail
  refine c5.mono ?_
  rintro e w5 ⟨rfl, E5⟩
  have X5 : Aside (Ext w w5) := X.out.trans E5
  clear c5 E5 X
  go_wp2
  go_loopg [14] n (fun gg s14 wr => ∃ k : Nat, k ≤ n ∧ n - k ≤ gg ∧ s14 = .int .i64 k ∧ Aside (Ext w wr))
  case atStart => exact ⟨0, Nat.zero_le _, by omega, rfl, X5.out⟩
  case round =>
    obtain ⟨k, hk, hgg, rfl, X⟩ := hrel
    by_cases hlt : k < n
    · have hltz : (k : Int) < (n : Int) := by omega
      have xl := XL.out k hlt
      have c2 := BADC.out _ wr xl X.out
      have best : Hid (D q ≤ D (q ^^^ 2 ^ k)) := BEST.out k hlt
      have pw : (2 : Int) ^ k % 4294967296 = ((2 ^ k : Nat) : Int) := pow_in _ (by omega)
      have p2 : 2 ^ k ≤ 2 ^ 12 := Nat.pow_le_pow_right (by omega) (by omega)
      have ex := u32_xor_nat q (2 ^ k) (by omega) (by omega)
      have hle : ¬ (D (q ^^^ 2 ^ k) : Int) < (D q : Int) := by have := best.out; omega
      clear XL BADC BEST best
      generalize q ^^^ 2 ^ k = Q at *
      generalize 2 ^ k = P at *
      generalize D Q = V at *
      generalize D q = d at *
      go_wp2_with fail
      refine c2.mono ?_
      rintro e w' ⟨rfl, E⟩
      have X2 : Aside (Ext w w') := X.out.trans E
      clear c2 E
      go_wp2
      go_roundg (n - (k + 1))
      case measure => omega
      case rel => exact ⟨k + 1, by omega, by omega, by go_num, X2.out⟩
    · obtain rfl : k = n := by omega
      have hltz : ¬ (k : Int) < (k : Int) := by omega
      clear XL BADC BEST
      go_wp2
      go_ret
      exact ⟨ret_bool (by simp), X.out⟩

theorem flipFewer_walk (n : Int) (x : Um) (hb : ∀ y ∈ x.z, y < 4294967296) (q : Int) (hw : (Lit.int .u32 q).wf = true) (w : World) (hx : Us w x) :
    Calls Try.prog 6 #[.int .i64 n, x.v, .int .u32 q] w fun e w' => e = .returned (.bool true) ∧ Ext w w' := by
  have hq' : 0 ≤ q ∧ q < 4294967296 := u32_in hw
  obtain ⟨m, rfl⟩ : ∃ m : Nat, q = m := ⟨q.toNat, by omega⟩
  by_cases h : re n x.z = 0
  · obtain ⟨s, rfl, h1, h2, h3⟩ := re_zero h
    by_cases a1 : m < 2 ^ s
    · cases a2 : fis x.z s m
      · exact flipFewer_none s h1 x h2 h3 m a1 w hx a2
      · exact flipFewer_step s h1 x h2 h3 m a1 w hx a2
    · exact flipFewer_high s h1 x h2 h3 m (by omega) w hx a1
  · exact flipFewer_rows n x hb m (by omega) w hx h

set_option maxRecDepth 100000 in
theorem flipFewer_lifted (os : Os) (started : os.Started) (H : Type) (enc : TypeId × Value → H) :
    ReturnsInHanded {} Try.checked os 6 .any (Rows.flipFewerSpec.pre6 enc Try.prog Try.f6 Rows.flipFewerRow.domain false) (Rows.flipFewerSpec.post enc Try.prog Try.f6 false true false false) := by
  refine returnsInHanded_of_change (C := Try.checked) own started (by kernel_rfl) Try.func6
    (ChangeSpec.witness6 (enc := enc) (C := Try.checked) false ⟨#[], #[.int .i64 0, .slice none 0 0, .int .u32 0], []⟩ 8 (by kernel_rfl) (by kernel_rfl) (by kernel_rfl) (by kernel_rfl)) ?_
  intro W base args ds gs before hval0 hW _ _
  have hval : ∀ (j : Nat) t v, Try.f6.params[j]? = some t → args[j]? = some v → Value.okWide Try.prog W .any base t v := hval0
  have hW' := hW
  obtain ⟨p, q, hA0, hV, rfl, hfz, hnd⟩ := hW
  have hA : DataW.TrodAll enc Try.prog W 0 (fun _ => true) true Try.f6.params.toList args.toList ds p := hA0
  rw [Try.params6] at hA hval
  obtain ⟨v0, vs0, d0, ds0, p0, q0, hargs, rfl, rfl, h0, r0⟩ := trodAll_cons hA
  obtain ⟨v1, vs1, d1, ds1, p1, q1, rfl, rfl, rfl, h1, r1⟩ := trodAll_cons r0
  obtain ⟨v2, vs2, d2, ds2, p2, q2, rfl, rfl, rfl, h2, r2⟩ := trodAll_cons r1
  obtain ⟨rfl, rfl, rfl⟩ := trodAll_nil r2
  obtain rfl : args = #[v0, v1, v2] := by cases args; simp_all
  obtain ⟨rfl, rfl⟩ := trodVars_none hV
  have lt0 : ∀ x ∈ p0, x.block < W.heap.size := by obtain ⟨m, hm⟩ := h0; exact DataW.trod_lt m _ _ _ hm
  obtain ⟨x0, rfl, -, -, wf0⟩ := open_int Try.underlying3 (hval 0 3 v0 rfl rfl) h0
  have lt1 : ∀ x ∈ p1, x.block < W.heap.size := by obtain ⟨m, hm⟩ := h1; exact DataW.trod_lt m _ _ _ hm
  obtain ⟨x1, rfl, w1, b1⟩ := open_us (hval 1 22 v1 rfl rfl) h1
  have lt2 : ∀ x ∈ p2, x.block < W.heap.size := by obtain ⟨m, hm⟩ := h2; exact DataW.trod_lt m _ _ _ hm
  obtain ⟨x2, rfl, -, -, wf2⟩ := open_int Try.underlying23 (hval 2 23 v2 rfl rfl) h2
  clear hA0 hval0
  refine (flipFewer_walk x0 x1 b1 x2 wf2 W w1).mono fun e W' ⟨he, bel⟩ => ?_
  subst he
  exact ⟨_, rfl, _, _, _, [], _, [], hW', trodAll_mk1 (shut_bool Try.underlying4 _), (trodAll_cons_mk (Below.trod laidOut (by kernel_rfl) (of_decide_eq_true (by kernel_rfl)) h0 bel lt0) (trodAll_cons_mk (Below.trod laidOut (by kernel_rfl) (of_decide_eq_true (by kernel_rfl)) h1 bel lt1) (trodAll_cons_mk (Below.trod laidOut (by kernel_rfl) (of_decide_eq_true (by kernel_rfl)) h2 bel lt2) trodAll_mk0))), rfl, bel.frame _, fun h => by cases h⟩

theorem flipFewer_holds : Rows.FlipFewerSaid :=
  OpenClaim.holds_of_wide 6 Try.f6 rfl rfl rfl rfl rfl rfl rfl ⟨rfl, rfl, rfl, rfl, rfl⟩ rfl rfl rfl rfl rfl (by kernel_rfl) Try.func6 (by kernel_rfl)
    (of_decide_eq_true (by kernel_rfl)) (by unfold Func.isWrapper; rw [if_neg (of_decide_eq_false (by kernel_rfl))]; exact ⟨rfl, rfl⟩)
    (fun os started H enc _ => flipFewer_lifted os started H enc)

#print axioms flipFewer_holds

end Go.Proofs.Ytabjliijojidmaa
