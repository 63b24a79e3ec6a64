/-
  For any rows the program tells how many sums have how many bits: SpanWeighs returns true for every number and every list of words, and changes nothing.
-/
import Derived.Test.YtdfjjjcaibadoaaOpu
import Derived.Test.YtdfjjjcaibadoaaWe
import Derived.Test.YtdfjjjcaibadoaaLo
namespace Go.Proofs.Ytdfjjjcaibadoaa
open Go.ChangeShapes Go.WideShapes Go.ChangeAt Go.RowKit Go.Deep
set_option linter.unusedVariables false

theorem spanWeighs_bad (n : Int) (x : Um) (hb : ∀ y ∈ x.z, y < 4294967296) (h : re n x.z ≠ 0) (w : World) (hx : Us w x) :
    Calls Try.prog 5 #[.int .i64 n, x.v] w fun e w' => e = .returned (.bool true) ∧ Ext w w' := by
  have c1 := weights_bad n x hb h w hx
  have c2 : Hid (∀ W, Ext w W → Calls Try.prog 9 #[.int .i64 n, x.v] W fun e w' => e = .returned (.int .i64 (re n x.z)) ∧ w' = W) := fun W E => refRows_any n x hb W (hx.ext E)
  have hz : (re n x.z != 0) = true := by rw [bne_iff_ne]; exact h
  clear h hb hx
  generalize re n x.z = R at *
  obtain ⟨a, c, g⟩ := x
  simp only [Um.v] at *
  generalize g.length = m at *
  go_enter Try.func5, Try.ntmps5
  go_wp2_with fail
  refine c1.mono ?_
  rintro e w1 ⟨rfl, E1⟩
  have X1 : Aside (Ext w w1) := E1
  have c2' := c2.out w1 E1
  clear c1 c2 E1
  go_wp2_with fail
  refine c2'.mono ?_
  rintro e w2 ⟨rfl, rfl⟩
  clear c2'
  go_wp2
  go_ret
  exact ⟨ret_bool (by simp), X1.out⟩

set_option maxHeartbeats 2000000 in
theorem spanWeighs_good (n : Nat) (hn : n ≤ 12) (x : Um) (hl : x.z.length ≤ 8) (hb : ∀ y ∈ x.z, y < 2 ^ n) (w : World) (hx : Us w x) :
    Calls Try.prog 5 #[.int .i64 n, x.v] w fun e w' => e = .returned (.bool true) ∧ Ext w w' := by
  have c1 := weights_good n hn x hl hb w hx
  have c2 : Hid (∀ W, Ext w W → Calls Try.prog 9 #[.int .i64 n, x.v] W fun e w' => e = .returned (.int .i64 0) ∧ w' = W) := fun W E => by
    have := refRows_any n x (rows_low hn hb) W (hx.ext E)
    rw [re_good hn hl hb] at this
    exact this
  have c3 : Hid (∀ W, Ext w W → Calls Try.prog 11 #[.int .i64 n, x.v] W fun e w' => Hid (∃ v, e = .returned v ∧ OwnU W w' v (spn n x.z))) := fun W E => refSpan_any n hn x hl hb W (hx.ext E)
  have SP := spn_pos n x.z hb
  have SF := spn_few n x.z
  have hM : 2 ^ n ≤ 2 ^ 12 := Nat.pow_le_pow_right (by omega) hn
  have LOW : Hid (∀ k, k < (spn n x.z).length → (spn n x.z).getD k 0 < 2 ^ n) := fun k hk => by
    rw [getD_get hk]
    exact (spn_lin hb).low _ (List.getElem_mem hk)
  have POP : Hid (∀ y, y < 2 ^ n → pop y ≤ n) := fun y hy => pop_le hy (by omega)
  obtain ⟨N, hN⟩ : ∃ N, n + 1 = N := ⟨_, rfl⟩
  have Nz : (n : Int) + 1 = (N : Int) := by omega
  have hmk := run_make_row' (P := Try.prog) 30 2 (.int .i64 0) 8 Try.underlying30 info2 rfl .i64 .i64 N (by omega) (by omega)
  clear hb hx
  unfold WO at c1
  generalize spn n x.z = ys at *
  obtain ⟨a, c, g⟩ := x
  simp only [Um.v] at *
  generalize g.length = m at *
  rw [hN] at c1
  have HN : Hid (n + 1 = N) := hN
  have HN12 : N ≤ 13 := by omega
  clear hN
  go_enter Try.func5, Try.ntmps5
  go_wp2_with fail
  refine c1.mono ?_
  intro e w1 h1
  obtain ⟨B, rfl, hB, RB0, EB⟩ := h1.out
  have RB1 : Hid (Row w1 B 2 (wc ys n)) := RB0
  have X1 : Hid (Ext w w1) := EB
  have c2' := c2.out w1 EB
  have R0 : Hid (Row (w1.alloc (.cells (madeCells #[.int .i64 0] N) 2)) w1.heap.size 2 (wc [] n)) := by
    show Row _ _ _ _
    rw [← HN.out]
    exact Row.madeF w1 2 (.int .i64 0) (n + 1) _ (fun i _ => by simp [wt_nil])
  have EX : Hid (Ext w1 (w1.alloc (.cells (madeCells #[.int .i64 0] N) 2))) := (Ext.refl w1).alloc _
  have c3' := c3.out (w1.alloc (.cells (madeCells #[.int .i64 0] N) 2)) (X1.out.trans EX.out)
  clear c1 c2 c3 h1 RB0 EB hB
  generalize hW : w1.alloc (.cells (madeCells #[.int .i64 0] N) 2) = W0 at *
  go_wp2_with fail
  refine c2'.mono ?_
  rintro e w2 ⟨rfl, rfl⟩
  clear c2'
  go_wp2_with fail
  refine c3'.mono ?_
  intro e w3 h3
  obtain ⟨v, rfl, O⟩ := h3.out
  obtain ⟨G, cap, r, rfl, hG, hcm, hcl, hrow⟩ := O.row SP
  have RG : Hid (Row w3 G 33 (uv ys ++ r)) := hrow
  have RC : Hid (Row w3 w2.heap.size 2 (wc [] n)) := R0.out.ext O.1
  have RB : Hid (Row w3 B 2 (wc ys n)) := RB1.out.ext (EX.out.trans O.1)
  have E2 : Hid (Ext w w3) := X1.out.trans (EX.out.trans O.1)
  have NE : Hid (G ≠ w2.heap.size) := by have := R0.out.lt; show _ ≠ _; omega
  have NB : Hid (B ≠ w2.heap.size) := by have := RB1.out.lt; show _ ≠ _; omega
  have LE : Hid (w.heap.size ≤ w2.heap.size) := X1.out.size
  clear c3' h3 O R0 EX hrow hW hmk hG hcm hcl RB1 X1
  obtain ⟨l, hl2⟩ : ∃ l, ys.length = l := ⟨_, rfl⟩
  rw [hl2] at SP SF LOW ⊢
  have HL : Hid (ys.length = l) := hl2
  clear hl2
  have NXT : Hid (∀ (W : World) (k : Nat), k < l → Row W w2.heap.size 2 (wc (ys.take k) n) → Row (W.setCell ⟨w2.heap.size, pop (ys.getD k 0), none⟩ (.int .i64 ((wt (ys.take k) (pop (ys.getD k 0)) : Nat) + 1))) w2.heap.size 2 (wc (ys.take (k + 1)) n)) := fun W k hk h => by
    refine h.setF _ _ (fun i hi => ?_)
    rw [List.take_succ_eq_append_getElem (by rw [HL.out]; exact hk), wt_snoc, ← getD_get]
    by_cases hi2 : i = pop (ys.getD k 0)
    · rw [if_pos hi2, if_pos hi2.symm, hi2]; simp
    · rw [if_neg hi2, if_neg (fun h => hi2 h.symm)]; rfl
  go_wp2
  go_loopg [37] l (fun gg s37 wr => ∃ k : Nat, k ≤ l ∧ l - k ≤ gg ∧ s37 = .int .i64 k ∧ Aside (KB w2.heap.size w3 wr) ∧ Aside (Row wr w2.heap.size 2 (wc (ys.take k) n)))
  case atStart => exact ⟨0, Nat.zero_le _, by omega, rfl, KB.refl _ _, by show Row _ _ _ _; rw [List.take_zero]; exact RC.out⟩
  case round =>
    clear RC
    obtain ⟨k, hk, hg, rfl, KW, RW⟩ := hrel
    by_cases hlt : k < l
    · have hltz : (k : Int) < (l : Int) := by omega
      have e1 : wr.cell? ⟨G, k, none⟩ = some (.int .u32 (ys.getD k 0 : Nat)) := by
        have h0 : k < ys.length := by rw [HL.out]; exact hlt
        have := (Row.kb RG.out KW.out NE.out).cell k (by simp; omega)
        rw [this, List.getElem_append_left (by simpa using h0), getD_get h0]
        simp
      have y1 := LOW.out k hlt
      have y2 := POP.out _ y1
      have c1 : Hid (∀ W, Calls Try.prog 15 #[.int .u32 (ys.getD k 0 : Nat)] W fun e w' => e = .returned (.int .i64 (pop (ys.getD k 0) : Nat)) ∧ w' = W) := fun W => size_any (ys.getD k 0) (by omega) W
      have t1 : wt (ys.take k) (pop (ys.getD k 0)) ≤ 4096 := by
        have h1 := wt_le (ys.take k) (pop (ys.getD k 0))
        have h2 := List.length_take_le k ys
        omega
      have R4' : Hid (Row (wr.setCell ⟨w2.heap.size, pop (ys.getD k 0), none⟩ (.int .i64 ((wt (ys.take k) (pop (ys.getD k 0)) : Nat) + 1))) w2.heap.size 2 (wc (ys.take (k + 1)) n)) := NXT.out wr k hlt RW.out
      have e4 : wr.cell? ⟨w2.heap.size, pop (ys.getD k 0), none⟩ = some (.int .i64 (wt (ys.take k) (pop (ys.getD k 0)) : Nat)) := RW.out.cellF _ (by omega)
      have f4 := RW.out.fr (pop (ys.getD k 0))
      have pz : (pop (ys.getD k 0) : Int) < (N : Int) := by have := HN.out; omega
      have K4 : Hid (KB w2.heap.size w3 (wr.setCell ⟨w2.heap.size, pop (ys.getD k 0), none⟩ (.int .i64 ((wt (ys.take k) (pop (ys.getD k 0)) : Nat) + 1)))) := KW.out.setCell _
      clear NXT LOW POP KW RW
      generalize wt (ys.take k) (pop (ys.getD k 0)) = A at *
      generalize pop (ys.getD k 0) = P at *
      generalize ys.getD k 0 = y at *
      go_wp2_with (go_at_call 15; refine (c1.out _).mono ?_; rintro e w9 ⟨rfl, rfl⟩)
      go_roundg (l - (k + 1))
      case measure => omega
      case rel => exact ⟨k + 1, by omega, by omega, by go_num, K4.out, R4'.out⟩
    · obtain rfl : k = l := by omega
      have hltz : ¬ (k : Int) < (k : Int) := by omega
      have RF : Hid (Row wr w2.heap.size 2 (wc ys n)) := by
        have := RW.out
        rw [List.take_of_length_le (by rw [HL.out]; exact Nat.le_refl _)] at this
        exact this
      have EF : Hid (Ext w wr) := KW.out.ext E2.out LE.out
      have RB9 := Row.kb RB.out KW.out NB.out
      have c4 := longs_same B w2.heap.size (n + 1) (by have := HN.out; omega) (fun i => (wt ys i : Nat)) wr RB9 RF.out
      rw [HN.out] at c4
      clear RW KW RB9
      go_wp2_with fail
      refine c4.mono ?_
      rintro e w9 ⟨rfl, q⟩
      clear c4
      go_wp2
      go_ret
      exact ⟨ret_bool (by simp), EF.out.trans q.ext⟩

theorem spanWeighs_walk (n : Int) (x : Um) (hb : ∀ y ∈ x.z, y < 4294967296) (w : World) (hx : Us w x) :
    Calls Try.prog 5 #[.int .i64 n, x.v] w fun e w' => e = .returned (.bool true) ∧ Ext w w' := by
  by_cases h : re n x.z = 0
  · obtain ⟨m, rfl, h1, h2, h3⟩ := re_zero h
    exact spanWeighs_good m h1 x h2 h3 w hx
  · exact spanWeighs_bad n x hb h w hx

set_option maxRecDepth 100000 in
theorem spanWeighs_lifted (os : Os) (started : os.Started) (H : Type) (enc : TypeId × Value → H) :
    ReturnsInHanded {} Try.checked os 5 .any (Rows.spanWeighsSpec.pre6 enc Try.prog Try.f5 Rows.spanWeighsRow.domain false) (Rows.spanWeighsSpec.post enc Try.prog Try.f5 false true false false) := by
  refine returnsInHanded_of_change (C := Try.checked) own started (by kernel_rfl) Try.func5
    (ChangeSpec.witness6 (enc := enc) (C := Try.checked) false ⟨#[], #[.int .i64 0, .slice none 0 0], []⟩ 8 (by kernel_rfl) (by kernel_rfl) (by kernel_rfl) (by kernel_rfl)) ?_
  intro W base args ds gs before hval0 hW _ _
  have hval : ∀ (j : Nat) t v, Try.f5.params[j]? = some t → args[j]? = some v → Value.okWide Try.prog W .any base t v := hval0
  have hW' := hW
  obtain ⟨p, q, hA0, hV, rfl, hfz, hnd⟩ := hW
  have hA : DataW.TrodAll enc Try.prog W 0 (fun _ => true) true Try.f5.params.toList args.toList ds p := hA0
  rw [Try.params5] at hA hval
  obtain ⟨v0, vs0, d0, ds0, p0, q0, hargs, rfl, rfl, h0, r0⟩ := trodAll_cons hA
  obtain ⟨v1, vs1, d1, ds1, p1, q1, rfl, rfl, rfl, h1, r1⟩ := trodAll_cons r0
  obtain ⟨rfl, rfl, rfl⟩ := trodAll_nil r1
  obtain rfl : args = #[v0, v1] := by cases args; simp_all
  obtain ⟨rfl, rfl⟩ := trodVars_none hV
  have lt0 : ∀ x ∈ p0, x.block < W.heap.size := by obtain ⟨m, hm⟩ := h0; exact DataW.trod_lt m _ _ _ hm
  obtain ⟨x0, rfl, -, -, wf0⟩ := open_int Try.underlying3 (hval 0 3 v0 rfl rfl) h0
  have lt1 : ∀ x ∈ p1, x.block < W.heap.size := by obtain ⟨m, hm⟩ := h1; exact DataW.trod_lt m _ _ _ hm
  obtain ⟨x1, rfl, w1, b1⟩ := open_us (hval 1 22 v1 rfl rfl) h1
  clear hA0 hval0
  refine (spanWeighs_walk x0 x1 b1 W w1).mono fun e W' ⟨he, bel⟩ => ?_
  subst he
  exact ⟨_, rfl, _, _, _, [], _, [], hW', trodAll_mk1 (shut_bool Try.underlying4 _), (trodAll_cons_mk (Below.trod laidOut (by kernel_rfl) (of_decide_eq_true (by kernel_rfl)) h0 bel lt0) (trodAll_cons_mk (Below.trod laidOut (by kernel_rfl) (of_decide_eq_true (by kernel_rfl)) h1 bel lt1) trodAll_mk0)), rfl, bel.frame _, fun h => by cases h⟩

theorem spanWeighs_holds : Rows.SpanWeighsSaid :=
  OpenClaim.holds_of_wide 5 Try.f5 rfl rfl rfl rfl rfl rfl rfl ⟨rfl, rfl, rfl, rfl, rfl⟩ rfl rfl rfl rfl rfl (by kernel_rfl) Try.func5 (by kernel_rfl)
    (of_decide_eq_true (by kernel_rfl)) (by unfold Func.isWrapper; rw [if_neg (of_decide_eq_false (by kernel_rfl))]; exact ⟨rfl, rfl⟩)
    (fun os started H enc _ => spanWeighs_lifted os started H enc)

#print axioms spanWeighs_holds

end Go.Proofs.Ytdfjjjcaibadoaa
