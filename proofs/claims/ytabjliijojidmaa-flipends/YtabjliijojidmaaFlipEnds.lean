/-
  For any checks and any word: there are no more steps than bad ones grow fewer, none is left in the end, and what comes is no farther than there were steps: FlipEnds returns true for every number, every list of words and every word, and changes nothing.
-/
import Derived.Test.YtabjliijojidmaaOpu
import Derived.Test.YtabjliijojidmaaLw
namespace Go.Proofs.Ytabjliijojidmaa
open Go.ChangeShapes Go.WideShapes Go.ChangeAt Go.RowKit Go.Deep
set_option linter.unusedVariables false

theorem flipEnds_rows (n : Int) (x : Um) (hb : ∀ y ∈ x.z, y < 4294967296) (q : Nat) (hq : q < 4294967296) (w : World) (hx : Us w x) (h : re n x.z ≠ 0) :
    Calls Try.prog 7 #[.int .i64 n, x.v, .int .u32 (q : Nat)] w fun e w' => e = .returned (.bool true) ∧ Ext w w' := by
  have hwe : we n x.z q n.toNat ≠ 0 := by rw [we_bad h]; exact h
  have c1 := fRun_bad n x hb q hq w hx hwe
  have c2 : Hid (∀ W, Ext w W → Calls Try.prog 8 #[.int .i64 n, x.v, .int .u32 (q : Nat)] W fun e w' => e = .returned (.tuple #[.int .i64 0, .int .i64 (we n x.z q n.toNat)]) ∧ Ext W w') := fun W E => fBad_bad n x hb q hq W (hx.ext E) hwe
  have c3 : Hid (∀ W, Ext w W → Calls Try.prog 14 #[.int .i64 n, x.v] W fun e w' => e = .returned (.bool false) ∧ w' = W) := fun W E => by
    have := rowed_any n x hb W (hx.ext E)
    rw [show (re n x.z == 0) = false by rw [beq_eq_false_iff_ne]; exact h] at this
    exact this
  have hz : (we n x.z q n.toNat != 0) = true := by rw [bne_iff_ne]; exact hwe
  clear h hb hx hwe
  generalize we n x.z q n.toNat = R at *
  obtain ⟨a, c, g⟩ := x
  simp only [Um.v] at *
  generalize g.length = gl at *
  go_enter Try.func7, Try.ntmps7
  go_wp2_with fail
  refine c1.mono ?_
  rintro e w1 ⟨rfl, E1⟩
  have X1 : Hid (Ext w w1) := E1
  have c2' := c2.out w1 E1
  clear c1 c2 E1
  go_wp2_with fail
  refine c2'.mono ?_
  rintro e w2 ⟨rfl, E2⟩
  have X2 : Hid (Ext w w2) := X1.out.trans E2
  have c3' := c3.out w2 X2.out
  clear c2' c3 E2 X1
  go_wp2_with fail
  refine c3'.mono ?_
  rintro e w3 ⟨rfl, rfl⟩
  clear c3'
  go_wp2
  go_ret
  exact ⟨ret_bool (by simp), X2.out⟩

theorem flipEnds_high (n : Nat) (hn : n ≤ 12) (x : Um) (hl : x.z.length ≤ 8) (hb : ∀ y ∈ x.z, y < 2 ^ n) (q : Nat) (hq : q < 4294967296) (w : World) (hx : Us w x) (h : ¬ q < 2 ^ n) :
    Calls Try.prog 7 #[.int .i64 (n : Int), x.v, .int .u32 (q : Nat)] w fun e w' => e = .returned (.bool true) ∧ Ext w w' := by
  have ew : we n x.z q (n : Int).toNat = 4 := by rw [we_good hn hl hb, Int.toNat_natCast, if_neg h]
  have hwe : we n x.z q (n : Int).toNat ≠ 0 := by rw [ew]; decide
  have c1 := fRun_bad n x (rows_low hn hb) q hq w hx hwe
  have c2 : Hid (∀ W, Ext w W → Calls Try.prog 8 #[.int .i64 (n : Int), x.v, .int .u32 (q : Nat)] W fun e w' => e = .returned (.tuple #[.int .i64 0, .int .i64 4]) ∧ Ext W w') := fun W E => by
    have := fBad_bad n x (rows_low hn hb) q hq W (hx.ext E) hwe
    rw [ew] at this
    exact this
  have c3 : Hid (∀ W, Ext w W → Calls Try.prog 14 #[.int .i64 (n : Int), x.v] W fun e w' => e = .returned (.bool true) ∧ w' = W) := fun W E => rows_yes n hn x hl hb W (hx.ext E)
  have c4 : Hid (∀ (W : World), Calls Try.prog 15 #[.int .i64 (n : Int), .slice (some ⟨W.heap.size, 0, none⟩) 1 1] (W.alloc (.cells #[.int .u32 q] 23)) fun e w' => e = .returned (.bool false) ∧ w' = W.alloc (.cells #[.int .u32 q] 23)) := fun W => below_no n hn q hq h W
  rw [ew] at c1
  clear h hb hx ew hwe
  obtain ⟨a, c, g⟩ := x
  simp only [Um.v] at *
  generalize g.length = gl at *
  go_enter Try.func7, Try.ntmps7
  go_wp2_with fail
  refine c1.mono ?_
  rintro e w1 ⟨rfl, E1⟩
  have X1 : Hid (Ext w w1) := E1
  have c2' := c2.out w1 E1
  clear c1 c2 E1
  go_wp2_with fail
  refine c2'.mono ?_
  rintro e w2 ⟨rfl, E2⟩
  have X2 : Hid (Ext w w2) := X1.out.trans E2
  have X : Hid (Ext w (w2.alloc (.cells #[.int .u32 q] 23))) := X2.out.alloc _
  have c3' := c3.out w2 X2.out
  have c4' := c4.out w2
  clear c2' c3 c4 E2 X1 X2
  go_wp2_with fail
  refine c3'.mono ?_
  rintro e w3 ⟨rfl, rfl⟩
  clear c3'
  go_wp2_with fail
  refine c4'.mono ?_
  rintro e w4 ⟨rfl, rfl⟩
  clear c4'
  generalize hW : w3.alloc (.cells #[.int .u32 q] 23) = W at *
  clear hW
  go_wp2
  go_ret
  exact ⟨ret_bool (by simp), X.out⟩

theorem flipEnds_good (n : Nat) (hn : n ≤ 12) (x : Um) (hl : x.z.length ≤ 8) (hb : ∀ y ∈ x.z, y < 2 ^ n) (q : Nat) (hq : q < 2 ^ n) (w : World) (hx : Us w x) :
    Calls Try.prog 7 #[.int .i64 (n : Int), x.v, .int .u32 (q : Nat)] w fun e w' => e = .returned (.bool true) ∧ Ext w w' := by
  have hp : 2 ^ n ≤ 2 ^ 12 := Nat.pow_le_pow_right (by omega) hn
  have c1 := fRun_good n hn x hl hb q hq w hx
  have BADC : Hid (∀ z W, z < 2 ^ n → Ext w W → Calls Try.prog 8 #[.int .i64 (n : Int), x.v, .int .u32 (z : Nat)] W fun e w' => e = .returned (.tuple #[.int .i64 (bd x.z z : Nat), .int .i64 0]) ∧ Ext W w') := fun z W hz E => fBad_good n hn x hl hb z hz W (hx.ext E)
  have c3 : Hid (∀ W, Ext w W → Calls Try.prog 14 #[.int .i64 (n : Int), x.v] W fun e w' => e = .returned (.bool true) ∧ w' = W) := fun W E => rows_yes n hn x hl hb W (hx.ext E)
  have c4 : Hid (∀ (W : World), Calls Try.prog 15 #[.int .i64 (n : Int), .slice (some ⟨W.heap.size, 0, none⟩) 1 1] (W.alloc (.cells #[.int .u32 q] 23)) fun e w' => e = .returned (.bool true) ∧ w' = W.alloc (.cells #[.int .u32 q] 23)) := fun W => below_yes n hn q hq W
  have STEP : Hid (∀ K W, Ends x.z n q K → Ext w W → Calls Try.prog 11 #[.int .i64 (n : Int), x.v, .int .u32 (itr x.z n q K : Nat)] W fun e w' => e = .returned (.tuple #[.int .u32 (itr x.z n q K : Nat), .bool false, .int .i64 0]) ∧ Ext W w') := fun K W hK E => by
    have := fStep_good n hn x hl hb _ (itr_lt (g := x.z) hq K) W (hx.ext E)
    rw [hK.2, fw_same hK.2] at this
    exact this
  have AP : Hid (∀ K W, Calls Try.prog 16 #[.int .u32 (itr x.z n q K : Nat), .int .u32 (q : Nat)] W fun e w' => e = .returned (.int .i64 (far (itr x.z n q K) q : Nat)) ∧ w' = W) := fun K W => refApart_any _ q (by have := itr_lt (g := x.z) hq K; omega) (by omega) W
  have LESS : Hid (∀ K, Ends x.z n q K → bd x.z (itr x.z n q K) + K ≤ bd x.z q ∧ far (itr x.z n q K) q ≤ K ∧ K ≤ 8) := fun K hK => by
    obtain ⟨u, v⟩ := itr_less hn K hK.1
    exact ⟨u, v, itr_few hn hl hK.1⟩
  have LT : Hid (∀ K, itr x.z n q K < 2 ^ n) := itr_lt hq
  have FB : Hid (bd x.z q ≤ 8) := bd_few hl q
  clear hb hx
  generalize Ends x.z n q = EE at *
  generalize itr x.z n q = B at *
  generalize bd x.z = D at *
  obtain ⟨a, c, g⟩ := x
  simp only [Um.v] at *
  generalize g.length = gl at *
  go_enter Try.func7, Try.ntmps7
  go_wp2_with fail
  refine c1.mono ?_
  rintro e w1 ⟨K, hK, rfl, E1⟩
  have X1 : Hid (Ext w w1) := E1
  have c2 := BADC.out q w1 hq E1
  clear c1 E1
  go_wp2_with fail
  refine c2.mono ?_
  rintro e w2 ⟨rfl, E2⟩
  have X2 : Hid (Ext w w2) := X1.out.trans E2
  have X : Hid (Ext w (w2.alloc (.cells #[.int .u32 q] 23))) := X2.out.alloc _
  have c3' := c3.out w2 X2.out
  have c4' := c4.out w2
  clear c2 c3 c4 E2 X1 X2
  go_wp2_with fail
  refine c3'.mono ?_
  rintro e w3 ⟨rfl, rfl⟩
  clear c3'
  go_wp2_with fail
  refine c4'.mono ?_
  rintro e w4 ⟨rfl, rfl⟩
  clear c4'
  generalize hW : w3.alloc (.cells #[.int .u32 q] 23) = W at *
  clear hW
  have c5 := BADC.out (B K) W (LT.out K) X.out
  have step : Hid (∀ W, Ext w W → _) := fun W => STEP.out K W hK
  have ap := AP.out K
  obtain ⟨l1, l2, l3⟩ := LESS.out K hK
  have fb := FB.out
  clear BADC STEP AP LESS LT FB hK
  go_wp2_with fail
  refine c5.mono ?_
  rintro e w5 ⟨rfl, E5⟩
  have X5 : Hid (Ext w w5) := X.out.trans E5
  have c6 := step.out w5 X5.out
  clear c5 E5 X step
  go_wp2_with fail
  refine c6.mono ?_
  rintro e w6 ⟨rfl, E6⟩
  have X6 : Hid (Ext w w6) := X5.out.trans E6
  have c7 := ap w6
  clear c6 E6 X5 ap
  generalize far (B K) q = A at *
  generalize D (B K) = b at *
  generalize D q = d at *
  generalize B K = V at *
  have z1 : (K : Int) ≥ 0 := by omega
  have z2 : (K : Int) ≤ (d : Int) - (b : Int) := by omega
  have z3 : (A : Int) ≤ (K : Int) := by omega
  by_cases hb0 : b = 0
  · subst hb0
    go_wp2_with fail
    refine c7.mono ?_
    rintro e w7 ⟨rfl, rfl⟩
    clear c7
    go_wp2
    go_ret
    exact ⟨ret_bool (by simp <;> omega), X6.out⟩
  · have z4 : ¬ (b : Int) = 0 := by omega
    have z5 : (d : Int) > 0 := by omega
    go_wp2_with fail
    refine c7.mono ?_
    rintro e w7 ⟨rfl, rfl⟩
    clear c7
    go_wp2
    go_ret
    exact ⟨ret_bool (by simp <;> omega), X6.out⟩

theorem flipEnds_walk (n : Int) (x : Um) (hb : ∀ y ∈ x.z, y < 4294967296) (q : Int) (hw : (Lit.int .u32 q).wf = true) (w : World) (hx : Us w x) :
    Calls Try.prog 7 #[.int .i64 n, x.v, .int .u32 q] w fun e w' => e = .returned (.bool true) ∧ Ext w w' := by
  have hq' : 0 ≤ q ∧ q < 4294967296 := u32_in hw
  obtain ⟨m, rfl⟩ : ∃ m : Nat, q = m := ⟨q.toNat, by omega⟩
  by_cases h : re n x.z = 0
  · obtain ⟨s, rfl, h1, h2, h3⟩ := re_zero h
    by_cases a1 : m < 2 ^ s
    · exact flipEnds_good s h1 x h2 h3 m a1 w hx
    · exact flipEnds_high s h1 x h2 h3 m (by omega) w hx a1
  · exact flipEnds_rows n x hb m (by omega) w hx h

set_option maxRecDepth 100000 in
theorem flipEnds_lifted (os : Os) (started : os.Started) (H : Type) (enc : TypeId × Value → H) :
    ReturnsInHanded {} Try.checked os 7 .any (Rows.flipEndsSpec.pre6 enc Try.prog Try.f7 Rows.flipEndsRow.domain false) (Rows.flipEndsSpec.post enc Try.prog Try.f7 false true false false) := by
  refine returnsInHanded_of_change (C := Try.checked) own started (by kernel_rfl) Try.func7
    (ChangeSpec.witness6 (enc := enc) (C := Try.checked) false ⟨#[], #[.int .i64 0, .slice none 0 0, .int .u32 0], []⟩ 8 (by kernel_rfl) (by kernel_rfl) (by kernel_rfl) (by kernel_rfl)) ?_
  intro W base args ds gs before hval0 hW _ _
  have hval : ∀ (j : Nat) t v, Try.f7.params[j]? = some t → args[j]? = some v → Value.okWide Try.prog W .any base t v := hval0
  have hW' := hW
  obtain ⟨p, q, hA0, hV, rfl, hfz, hnd⟩ := hW
  have hA : DataW.TrodAll enc Try.prog W 0 (fun _ => true) true Try.f7.params.toList args.toList ds p := hA0
  rw [Try.params7] at hA hval
  obtain ⟨v0, vs0, d0, ds0, p0, q0, hargs, rfl, rfl, h0, r0⟩ := trodAll_cons hA
  obtain ⟨v1, vs1, d1, ds1, p1, q1, rfl, rfl, rfl, h1, r1⟩ := trodAll_cons r0
  obtain ⟨v2, vs2, d2, ds2, p2, q2, rfl, rfl, rfl, h2, r2⟩ := trodAll_cons r1
  obtain ⟨rfl, rfl, rfl⟩ := trodAll_nil r2
  obtain rfl : args = #[v0, v1, v2] := by cases args; simp_all
  obtain ⟨rfl, rfl⟩ := trodVars_none hV
  have lt0 : ∀ x ∈ p0, x.block < W.heap.size := by obtain ⟨m, hm⟩ := h0; exact DataW.trod_lt m _ _ _ hm
  obtain ⟨x0, rfl, -, -, wf0⟩ := open_int Try.underlying3 (hval 0 3 v0 rfl rfl) h0
  have lt1 : ∀ x ∈ p1, x.block < W.heap.size := by obtain ⟨m, hm⟩ := h1; exact DataW.trod_lt m _ _ _ hm
  obtain ⟨x1, rfl, w1, b1⟩ := open_us (hval 1 22 v1 rfl rfl) h1
  have lt2 : ∀ x ∈ p2, x.block < W.heap.size := by obtain ⟨m, hm⟩ := h2; exact DataW.trod_lt m _ _ _ hm
  obtain ⟨x2, rfl, -, -, wf2⟩ := open_int Try.underlying23 (hval 2 23 v2 rfl rfl) h2
  clear hA0 hval0
  refine (flipEnds_walk x0 x1 b1 x2 wf2 W w1).mono fun e W' ⟨he, bel⟩ => ?_
  subst he
  exact ⟨_, rfl, _, _, _, [], _, [], hW', trodAll_mk1 (shut_bool Try.underlying4 _), (trodAll_cons_mk (Below.trod laidOut (by kernel_rfl) (of_decide_eq_true (by kernel_rfl)) h0 bel lt0) (trodAll_cons_mk (Below.trod laidOut (by kernel_rfl) (of_decide_eq_true (by kernel_rfl)) h1 bel lt1) (trodAll_cons_mk (Below.trod laidOut (by kernel_rfl) (of_decide_eq_true (by kernel_rfl)) h2 bel lt2) trodAll_mk0))), rfl, bel.frame _, fun h => by cases h⟩

theorem flipEnds_holds : Rows.FlipEndsSaid :=
  OpenClaim.holds_of_wide 7 Try.f7 rfl rfl rfl rfl rfl rfl rfl ⟨rfl, rfl, rfl, rfl, rfl⟩ rfl rfl rfl rfl rfl (by kernel_rfl) Try.func7 (by kernel_rfl)
    (of_decide_eq_true (by kernel_rfl)) (by unfold Func.isWrapper; rw [if_neg (of_decide_eq_false (by kernel_rfl))]; exact ⟨rfl, rfl⟩)
    (fun os started H enc _ => flipEnds_lifted os started H enc)

#print axioms flipEnds_holds

end Go.Proofs.Ytabjliijojidmaa
