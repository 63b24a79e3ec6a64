/-
  For any rows: sums and duals together take all bits; and any word is a sum just if it has an even number in common with each dual: SpanDual returns true for every number, every list of words and every word, and changes nothing; the table of math/bits that it reads is as the program's text lays it.
-/
import Derived.Test.YtdfjjjcaibadoabDoorOpu
import Derived.Test.YtdfjjjcaibadoabDoorSj
import Derived.Test.YtdfjjjcaibadoabDoorLd
import Derived.Test.YtdfjjjcaibadoabDoorOd
import Derived.Test.YtdfjjjcaibadoabDoorFb
import Derived.Test.YtdfjjjcaibadoabDoorCards
import Derived.Test.YtdfjjjcaibadoabDoorTie
import Derived.SevenTiedAt
namespace Go.Proofs.YtdfjjjcaibadoabDoor
open Go.ChangeShapes Go.WideShapes Go.ChangeAt Go.RowKit Go.Deep
set_option linter.unusedVariables false

theorem spanDual_bad (n : Int) (x : Um) (hb : ∀ y ∈ x.z, y < 4294967296) (h : re n x.z ≠ 0) (q : Nat) (w : World) (hx : Us w x) :
    Calls Tryd.prog 3 #[.int .i64 n, x.v, .int .u32 (q : Nat)] w fun e w' => e = .returned (.bool true) ∧ Ext w w' := by
  have c1 := span_bad n x hb h w hx
  have c2 : Hid (∀ W, Ext w W → Calls Tryd.prog 5 #[.int .i64 n, x.v] W fun e w' => e = .returned (.tuple #[.slice none 0 0, .int .i64 (re n x.z)]) ∧ Ext W w') := fun W E => dual_bad n x hb h W (hx.ext E)
  have c3 : Hid (∀ W, Ext w W → Calls Tryd.prog 6 #[.int .i64 n, x.v] W fun e w' => e = .returned (.tuple #[.int .i64 0, .int .i64 (re n x.z)]) ∧ Ext W w') := fun W E => spanSize_bad n x hb h W (hx.ext E)
  have c4 : Hid (∀ W, Ext w W → Calls Tryd.prog 7 #[.int .i64 n, x.v] W fun e w' => e = .returned (.bool false) ∧ w' = W) := fun W E => by
    have := rowed_any n x hb W (hx.ext E)
    rw [show (re n x.z == 0) = false by rw [beq_eq_false_iff_ne]; exact h] at this
    exact this
  have hz : (re n x.z != 0) = true := by rw [bne_iff_ne]; exact h
  clear h hb hx
  generalize re n x.z = R at *
  obtain ⟨a, c, g⟩ := x
  simp only [Um.v] at *
  generalize g.length = m at *
  go_enter Tryd.func3, Tryd.ntmps3
  go_wp2_with fail
  refine c1.mono ?_
  rintro e w1 ⟨rfl, E1⟩
  have X1 : Hid (Ext w w1) := E1
  have c2' := c2.out w1 E1
  clear c1 c2 E1
  go_wp2_with fail
  refine c2'.mono ?_
  rintro e w2 ⟨rfl, E2⟩
  have X2 : Hid (Ext w w2) := X1.out.trans E2
  have c3' := c3.out w2 X2.out
  clear c2' c3 E2 X1
  go_wp2_with fail
  refine c3'.mono ?_
  rintro e w3 ⟨rfl, E3⟩
  have X3 : Hid (Ext w w3) := X2.out.trans E3
  have c4' := c4.out w3 X3.out
  clear c3' c4 E3 X2
  go_wp2_with fail
  refine c4'.mono ?_
  rintro e w4 ⟨rfl, rfl⟩
  clear c4'
  go_wp2
  go_ret
  exact ⟨ret_bool (by first | rfl | simp [hz]), X3.out⟩

theorem evn_next (D : List Nat) (q k : Nat) (hk : k < D.length) : evn (D.take (k + 1)) q = (evn (D.take k) q && !odd (D.getD k 0) q) := by
  rw [List.take_succ_eq_append_getElem hk, getD_get hk]
  unfold evn
  rw [List.all_append, List.all_cons, List.all_nil, Bool.and_true]

set_option maxHeartbeats 2000000 in
theorem spanDual_good (n : Nat) (hn : n ≤ 12) (x : Um) (hl : x.z.length ≤ 8) (hb : ∀ y ∈ x.z, y < 2 ^ n) (q : Nat) (hq : q < 4294967296) (w : World) (hx : Us w x) (hT : TB w) :
    Calls Tryd.prog 3 #[.int .i64 n, x.v, .int .u32 (q : Nat)] w fun e w' => e = .returned (.bool true) ∧ Ext w w' := by
  have LS := spn_lin hb
  obtain ⟨k, hk, hlen⟩ := LS.two (by omega)
  have c1 := span_good n hn x hl hb w hx
  have c2 : Hid (∀ W, Ext w W → Calls Tryd.prog 5 #[.int .i64 n, x.v] W fun e w' => Hid (∃ v, e = .returned (.tuple #[v, .int .i64 0]) ∧ OwnU W w' v (dl n x.z))) := fun W E => dual_good n hn x hl hb W (hx.ext E)
  have c3 : Hid (∀ W, Ext w W → Calls Tryd.prog 6 #[.int .i64 n, x.v] W fun e w' => e = .returned (.tuple #[.int .i64 k, .int .i64 0]) ∧ Ext W w') := fun W E => spanSize_good n hn x hl hb k (by omega) hlen W (hx.ext E) (hT.ext E)
  have c4 : Hid (∀ W, Ext w W → Calls Tryd.prog 7 #[.int .i64 n, x.v] W fun e w' => e = .returned (.bool true) ∧ w' = W) := fun W E => by
    have := rowed_any n x (rows_low hn hb) W (hx.ext E)
    rw [re_good hn hl hb] at this
    exact this
  have c5 : Hid (∀ W, Calls Tryd.prog 8 #[.int .i64 n, .slice (some ⟨W.heap.size, 0, none⟩) 1 1] (W.alloc (.cells #[.int .u32 q] 23)) fun e w' => e = .returned (.bool (decide (q < 2 ^ n))) ∧ Ext W w') := fun W => below_one n hn q hq W
  have c6 : Hid (∀ W, Ext w W → Calls Tryd.prog 10 #[x.v, .int .u32 (q : Nat)] W fun e w' => e = .returned (.bool (inb x.z q)) ∧ w' = W) := fun W E => in_any x q hl (rows_low hn hb) W (hx.ext E)
  have M2 := LS.dual_many (n := n) (by omega)
  have DE := dl_rows hb
  rw [DE] at c2
  have BK : Hid (q < 2 ^ n → evn (dl n (spn n x.z)) q = inb x.z q) := fun h => by
    rw [Bool.eq_iff_iff]
    exact (LS.dual_back (by omega) h).trans (spn_mem hb)
  have DL := dl_lin n (spn n x.z)
  have DW : Hid (∀ j, j < (dl n (spn n x.z)).length → (dl n (spn n x.z)).getD j 0 < 4096) := fun j hj => by
    have h1 : (dl n (spn n x.z)).getD j 0 < 2 ^ n := by rw [getD_get hj]; exact DL.low _ (List.getElem_mem hj)
    have h2 : 2 ^ n ≤ 2 ^ 12 := Nat.pow_le_pow_right (by omega) hn
    omega
  have EN : Hid (∀ j, j < (dl n (spn n x.z)).length → evn ((dl n (spn n x.z)).take (j + 1)) q = (evn ((dl n (spn n x.z)).take j) q && !odd ((dl n (spn n x.z)).getD j 0) q)) := fun j hj => evn_next _ q j hj
  have E0 : Hid (evn ((dl n (spn n x.z)).take 0) q = true) := rfl
  have EF : Hid (evn ((dl n (spn n x.z)).take (dl n (spn n x.z)).length) q = evn (dl n (spn n x.z)) q) := by rw [Hid, List.take_length]
  have OD : Hid (∀ (y : Nat) W, y < 4096 → Calls Tryd.prog 9 #[.int .u32 (y : Nat), .int .u32 (q : Nat)] W fun e w' => e = .returned (.bool (odd y q)) ∧ w' = W) := fun y W hy => refOdd_any y q (by omega) hq W
  have pk := wrap_pow ⟨k, by omega⟩
  have pn := wrap_pow ⟨n, by omega⟩
  simp only at pk pn
  have p1 : 2 ^ k ≤ 2 ^ 12 := Nat.pow_le_pow_right (by omega) (by omega)
  have p2 : 2 ^ n ≤ 2 ^ 12 := Nat.pow_le_pow_right (by omega) hn
  have p3 : 0 < 2 ^ k := Nat.two_pow_pos k
  rw [hlen] at M2
  clear hb hx hT LS DE DL
  generalize hD : dl n (spn n x.z) = D at *
  clear hD
  generalize spn n x.z = S at *
  generalize inb x.z q = R at *
  obtain ⟨a, c, g⟩ := x
  simp only [Um.v] at *
  generalize g.length = m at *
  go_enter Tryd.func3, Tryd.ntmps3
  go_wp2_with fail
  refine c1.mono ?_
  intro e w1 h1
  obtain ⟨v1, rfl, O1⟩ := h1.out
  have X1 : Hid (Ext w w1) := O1.1
  have c2' := c2.out w1 X1.out
  obtain ⟨Y, rfl, ez, _⟩ := O1.us
  obtain ⟨aY, cY, gY⟩ := Y
  have hY : gY.length = 2 ^ k := by rw [← hlen, ← ez]
  simp only [Um.v] at c2' ⊢
  rw [hY]
  clear c1 c2 h1 O1 ez hY hlen
  go_wp2_with fail
  refine c2'.mono ?_
  intro e w2 h2
  obtain ⟨v2, rfl, O2⟩ := h2.out
  have X2 : Hid (Ext w w2) := X1.out.trans O2.1
  have c3' := c3.out w2 X2.out
  obtain ⟨Z, rfl, ez2, U2⟩ := O2.us
  obtain ⟨aZ, cZ, gZ⟩ := Z
  obtain ⟨u1, u2, _, bZ, oZ, u3, u4⟩ := U2
  simp only [Um.v] at c3' u1 u2 u3 u4 ez2 ⊢
  subst ez2
  unfold maxLen at u2
  have U4 : Hid (∀ i, i < gZ.length → w2.cell? ⟨bZ, oZ + i, none⟩ = some (.int .u32 (gZ.getD i 0 : Nat))) := u4
  clear c2' c3 h2 O2 u4
  obtain ⟨l, hl2⟩ : ∃ l, gZ.length = l := ⟨_, rfl⟩
  rw [hl2] at M2 u1 u3 U4 DW EN EF ⊢
  clear hl2
  go_wp2_with fail
  refine c3'.mono ?_
  rintro e w3 ⟨rfl, E3⟩
  have X3 : Hid (Ext w w3) := X2.out.trans E3
  have U5 : Hid (∀ i, i < l → w3.cell? ⟨bZ, oZ + i, none⟩ = some (.int .u32 (gZ.getD i 0 : Nat))) := fun i hi => E3.cell (U4.out i hi)
  have c4' := c4.out w3 X3.out
  clear c3' c4 E3 X2 U4 X1
  go_wp2_with fail
  refine c4'.mono ?_
  rintro e w4 ⟨rfl, rfl⟩
  clear c4'
  have M3 : ((2 ^ k : Nat) : Int) * (l : Int) = ((2 ^ n : Nat) : Int) := by rw [← M2]; simp
  have hln : l ≤ 2 ^ n := by
    rw [← M2]
    exact Nat.le_mul_of_pos_left l p3
  have hkn : ¬ (k : Int) > (n : Int) := by omega
  have hk0 : ¬ (k : Int) < 0 := by omega
  have X5 : Hid (Ext w (w4.alloc (.cells #[.int .u32 q] 23))) := X3.out.alloc _
  have c5' := c5.out w4
  have BK' : Hid (decide (q < 2 ^ n) = true → evn gZ q = R) := fun h => BK.out (by simpa using h)
  clear c5 M2 BK
  generalize decide (q < 2 ^ n) = BT at *
  generalize 2 ^ n = NN at *
  generalize 2 ^ k = KK at *
  have z1 : ((NN : Int) != (NN : Int)) = false := by simp
  have z2 : ((KK : Int) != (KK : Int)) = false := by simp
  go_wp2_with fail
  refine c5'.mono ?_
  rintro e w5 ⟨rfl, E5⟩
  have X6 : Hid (Ext w w5) := X3.out.trans E5
  have Y6 : Hid (∀ i, i < l → w5.cell? ⟨bZ, oZ + i, none⟩ = some (.int .u32 (gZ.getD i 0 : Nat))) := fun i hi => E5.cell (U5.out i hi)
  clear c5' E5 U5 X3 X5 z1 z2
  cases BT with
  | false =>
    clear c6 BK' DW EN E0 EF OD Y6
    go_wp2
    go_ret
    exact ⟨rfl, X6.out⟩
  | true =>
    have RR := BK'.out rfl
    have c6' := c6.out w5 X6.out
    rw [← RR] at c6'
    clear BK' c6 RR
    generalize hEV : (fun j => evn (gZ.take j) q) = EV at *
    have en : Hid (∀ j, j < l → EV (j + 1) = (EV j && !odd (gZ.getD j 0) q)) := by subst hEV; exact EN.out
    have e0 : Hid (EV 0 = true) := by subst hEV; exact E0.out
    have ef : Hid (EV l = evn gZ q) := by subst hEV; exact EF.out
    clear EN E0 EF hEV
    generalize evn gZ q = RB at *
    go_wp2
    go_loopg [13, 93] l (fun gg s13 s93 wr => ∃ j : Nat, j ≤ l ∧ l - j ≤ gg ∧ s93 = .int .i64 j ∧ s13 = .bool (EV j) ∧ wr = w5)
    case atStart => exact ⟨0, Nat.zero_le _, by omega, rfl, by rw [e0.out], rfl⟩
    case round =>
      obtain ⟨j, hj, hg, rfl, rfl, rfl⟩ := hrel
      by_cases hlt : j < l
      · have hltz : (j : Int) < (l : Int) := by omega
        obtain rfl := u3 (by omega)
        have e1 := Y6.out j hlt
        have y1 := DW.out j hlt
        have nx := en.out j hlt
        have c7 := OD.out (gZ.getD j 0) wr y1
        clear en e0 ef OD DW Y6
        generalize odd (gZ.getD j 0) q = ob at *
        generalize gZ.getD j 0 = y at *
        cases hv : EV j with
        | false =>
          rw [hv] at nx
          have NX : Hid (EV (j + 1) = false) := by rw [Hid, nx]; rfl
          clear nx c7
          go_wp2
          go_roundg (l - (j + 1))
          case measure => omega
          case rel => exact ⟨j + 1, by omega, by omega, by go_num, by rw [NX.out], rfl⟩
        | true =>
          rw [hv] at nx
          have NX : Hid (EV (j + 1) = !ob) := by rw [Hid, nx]; rfl
          clear nx
          go_wp2_with fail
          refine c7.mono ?_
          rintro e w9 ⟨rfl, rfl⟩
          clear c7
          go_wp2
          go_roundg (l - (j + 1))
          case measure => omega
          case rel => exact ⟨j + 1, by omega, by omega, by go_num, by rw [NX.out], rfl⟩
      · obtain rfl : l = j := by omega
        have hltz : ¬ (l : Int) < (l : Int) := by omega
        rw [ef.out]
        clear en e0 ef OD DW Y6
        go_wp2_with fail
        refine c6'.mono ?_
        rintro e w9 ⟨rfl, rfl⟩
        clear c6'
        go_wp2
        go_ret
        exact ⟨ret_bool (by first | rfl | simp), X6.out⟩

theorem spanDual_walk (n : Int) (x : Um) (hb : ∀ y ∈ x.z, y < 4294967296) (q : Nat) (hq : q < 4294967296) (w : World) (hx : Us w x) (hT : TB w) :
    Calls Tryd.prog 3 #[.int .i64 n, x.v, .int .u32 (q : Nat)] w fun e w' => e = .returned (.bool true) ∧ Ext w w' := by
  by_cases h : re n x.z = 0
  · obtain ⟨m, rfl, h1, h2, h3⟩ := re_zero h
    exact spanDual_good m h1 x h2 h3 q hq w hx hT
  · exact spanDual_bad n x hb h q w hx

set_option maxRecDepth 100000 in
theorem spanDual_lifted (os : Os) (started : os.Started) (H : Type) (enc : TypeId × Value → H) :
    ReturnsInHanded {} Tryd.checked os 3 .any (fun w args => (Rows.spanDualSpec.pre enc Tryd.prog Tryd.f3 [] false w args ∧ laidMetH Tryd.prog Rows.spanDualRow.laid w) ∧ sizedMet enc Tryd.prog Tryd.f3 (OpenSpec.ofChange Rows.spanDualSpec) false w args)
      (Rows.spanDualSpec.post enc Tryd.prog Tryd.f3 false true false false) := by
  refine returnsInHanded_of_change_and (C := Tryd.checked) (X := fun w _ => laidMetH Tryd.prog Rows.spanDualRow.laid w) (fun _ _ _ hh h => h.of_heap hh) own started (by kernel_rfl) Tryd.func3
    (ChangeSpec.witness_shaped (enc := enc) (C := Tryd.checked) (os := os) (X := fun w _ => laidMetH Tryd.prog Rows.spanDualRow.laid w) false (World.doorLaid Tryd.prog 400 os) #[.int .i64 0, .slice none 0 0, .int .u32 0] 8 rfl (World.shaped_of_RefB (by kernel_rfl) (by kernel_rfl)) (by kernel_rfl) (by kernel_rfl) (by kernel_rfl) (door_met os _)) ?_
  intro W base args ds gs before hval0 hW _ _ hL _
  have hval : ∀ (j : Nat) t v, Tryd.f3.params[j]? = some t → args[j]? = some v → Value.okWide Tryd.prog W .any base t v := hval0
  have hW' := hW
  obtain ⟨p, q, hA0, hV, rfl, hfz, hnd⟩ := hW
  have hA : DataW.TrodAll enc Tryd.prog W 0 (fun _ => true) true Tryd.f3.params.toList args.toList ds p := hA0
  rw [Tryd.params3] at hA hval
  obtain ⟨v0, vs0, d0, ds0, p0, q0, hargs, rfl, rfl, h0, r0⟩ := trodAll_cons hA
  obtain ⟨v1, vs1, d1, ds1, p1, q1, rfl, rfl, rfl, h1, r1⟩ := trodAll_cons r0
  obtain ⟨v2, vs2, d2, ds2, p2, q2, rfl, rfl, rfl, h2, r2⟩ := trodAll_cons r1
  obtain ⟨rfl, rfl, rfl⟩ := trodAll_nil r2
  obtain rfl : args = #[v0, v1, v2] := by cases args; simp_all
  obtain ⟨rfl, rfl⟩ := trodVars_none hV
  have lt0 : ∀ x ∈ p0, x.block < W.heap.size := by obtain ⟨m, hm⟩ := h0; exact DataW.trod_lt m _ _ _ hm
  obtain ⟨x0, rfl, -, -, wf0⟩ := open_int Tryd.underlying3 (hval 0 3 v0 rfl rfl) h0
  have lt1 : ∀ x ∈ p1, x.block < W.heap.size := by obtain ⟨m, hm⟩ := h1; exact DataW.trod_lt m _ _ _ hm
  obtain ⟨x1, rfl, w1, b1⟩ := open_us (hval 1 22 v1 rfl rfl) h1
  have lt2 : ∀ x ∈ p2, x.block < W.heap.size := by obtain ⟨m, hm⟩ := h2; exact DataW.trod_lt m _ _ _ hm
  obtain ⟨x2, rfl, -, -, wf2⟩ := open_int Tryd.underlying23 (hval 2 23 v2 rfl rfl) h2
  obtain ⟨k2, hk2⟩ : ∃ k : Nat, x2 = k := ⟨x2.toNat, by have := u32_in wf2; omega⟩
  subst hk2
  have lw2 := u32_in wf2
  clear hA0 hval0
  refine (spanDual_walk x0 x1 b1 k2 (by omega) W w1 (of_laid hL)).mono fun e W' ⟨he, bel⟩ => ?_
  subst he
  exact ⟨_, rfl, _, _, _, [], _, [], hW', trodAll_mk1 (shut_bool Tryd.underlying4 _), (trodAll_cons_mk (Below.trod laidOut (by kernel_rfl) (of_decide_eq_true (by kernel_rfl)) h0 bel lt0) (trodAll_cons_mk (Below.trod laidOut (by kernel_rfl) (of_decide_eq_true (by kernel_rfl)) h1 bel lt1) (trodAll_cons_mk (Below.trod laidOut (by kernel_rfl) (of_decide_eq_true (by kernel_rfl)) h2 bel lt2) trodAll_mk0))), rfl, bel.frame _, fun h => by cases h⟩

theorem spanDual_holds : Rows.SpanDualSaid :=
  OpenClaim.holds_of_wide 3 Tryd.f3 rfl rfl rfl rfl rfl rfl rfl ⟨rfl, rfl, rfl, rfl, rfl⟩ rfl rfl rfl rfl rfl (by kernel_rfl) Tryd.func3 (by kernel_rfl)
    (of_decide_eq_true (by kernel_rfl)) (by unfold Func.isWrapper; first | (rw [if_pos (by decide +kernel)]; kernel_rfl) | (rw [if_neg (by decide +kernel)]; exact ⟨rfl, rfl⟩))
    (fun os started H enc _ => spanDual_lifted os started H enc)

/-- The tied card. -/
theorem spanDual_card : Rows.SpanDualCardSaid :=
  Claim7.holds_tied_plain_at .later [] [.data, .data] true (true, "0fdbf1309f70af3ad4fd6aab3a92cd97c0566f6a0918948365c9a673f1feebdc") false
    spanDual_holds (fun _ h => by cases h) (by kernel_rfl) (fun _ h => by cases h) spanDual_row_tie rfl ⟨rfl, rfl⟩ (by kernel_rfl) rfl
    (fun f fn hf hfn => by
      obtain rfl : f = 3 := Option.some.inj ((show Tryd.prog.funcNamed "quipu/quipukeep.SpanDual" = some 3 by kernel_rfl).symm.trans hf) |>.symm
      obtain rfl : fn = Tryd.f3 := (Option.some.inj (Tryd.func3.symm.trans hfn)).symm
      exact ⟨by kernel_rfl, fun j t ht => by
        rw [Tryd.params3] at ht
        have hm : t ∈ [3, 22, 23] := by simpa using Array.mem_of_getElem? ht
        have hall : ([3, 22, 23].all fun u => !Tryd.prog.wantsStandIn u) = true := by kernel_rfl
        exact (show Tryd.prog.wantsStandIn t = false by simpa using List.all_eq_true.1 hall t hm)⟩)
    (by kernel_rfl)

#print axioms spanDual_card

end Go.Proofs.YtdfjjjcaibadoabDoor
