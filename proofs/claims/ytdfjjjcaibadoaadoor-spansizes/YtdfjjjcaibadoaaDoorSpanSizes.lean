/-
  The program tells how few rows have the same sums: SpanSizes returns true for every number and every list of words, and changes nothing; the table of math/bits that it reads is as the program's text lays it.
-/
import Derived.Test.YtdfjjjcaibadoaaDoorOpu
import Derived.Test.YtdfjjjcaibadoaaDoorSj
import Derived.Test.YtdfjjjcaibadoaaDoorLd
import Derived.Test.YtdfjjjcaibadoaaDoorCards
import Derived.Test.YtdfjjjcaibadoaaDoorTie
import Derived.SevenTiedAt
namespace Go.Proofs.YtdfjjjcaibadoaaDoor
open Go.ChangeShapes Go.WideShapes Go.ChangeAt Go.RowKit Go.Deep
set_option linter.unusedVariables false

theorem spanSizes_bad (n : Int) (x : Um) (hb : ∀ y ∈ x.z, y < 4294967296) (h : re n x.z ≠ 0) (w : World) (hx : Us w x) :
    Calls Tryd.prog 3 #[.int .i64 n, x.v] w fun e w' => e = .returned (.bool true) ∧ Ext w w' := by
  have c1 := spanSize_bad n x hb h w hx
  have c2 : Hid (∀ W, Ext w W → Calls Tryd.prog 5 #[.int .i64 n, x.v] W fun e w' => e = .returned (.int .i64 (re n x.z)) ∧ w' = W) := fun W E => refRows_any n x hb W (hx.ext E)
  have hz : (re n x.z != 0) = true := by rw [bne_iff_ne]; exact h
  have hz2 : (re n x.z == re n x.z) = true := by simp
  clear h hb hx
  generalize re n x.z = R at *
  obtain ⟨a, c, g⟩ := x
  simp only [Um.v] at *
  generalize g.length = m at *
  go_enter Tryd.func3, Tryd.ntmps3
  go_wp2_with fail
  refine c1.mono ?_
  rintro e w1 ⟨rfl, E1⟩
  have X1 : Aside (Ext w w1) := E1
  have c2' := c2.out w1 E1
  clear c1 c2 E1
  go_wp2_with fail
  refine c2'.mono ?_
  rintro e w2 ⟨rfl, rfl⟩
  clear c2'
  go_wp2
  go_ret
  exact ⟨ret_bool (by first | rfl | simp), X1.out⟩

theorem spanSizes_good (n : Nat) (hn : n ≤ 12) (x : Um) (hl : x.z.length ≤ 8) (hb : ∀ y ∈ x.z, y < 2 ^ n) (w : World) (hx : Us w x) (hT : TB w) :
    Calls Tryd.prog 3 #[.int .i64 n, x.v] w fun e w' => e = .returned (.bool true) ∧ Ext w w' := by
  obtain ⟨k, hk, hlen⟩ := (spn_lin hb).two (by omega)
  have c1 := spanSize_good n hn x hl hb k (by omega) hlen w hx hT
  have c2 : Hid (∀ W, Ext w W → Calls Tryd.prog 5 #[.int .i64 n, x.v] W fun e w' => e = .returned (.int .i64 0) ∧ w' = W) := fun W E => by
    have := refRows_any n x (rows_32 hn hb) W (hx.ext E)
    rw [re_good hn hl hb] at this
    exact this
  have c3 : Hid (∀ W, Ext w W → Calls Tryd.prog 6 #[.int .i64 n, x.v] W fun e w' => Hid (∃ v, e = .returned v ∧ OwnU W w' v (spn n x.z))) := fun W E => refSpan_any n hn x hl hb W (hx.ext E)
  have pw := wrap_pow ⟨k, by omega⟩
  simp only at pw
  have p1 : 2 ^ k ≤ 2 ^ 12 := Nat.pow_le_pow_right (by omega) (by omega)
  have hk12 : (k : Int) ≤ 12 := by omega
  have hk0 : (k : Int) ≥ 0 := by omega
  clear hb hx hT
  generalize spn n x.z = S at *
  obtain ⟨a, c, g⟩ := x
  simp only [Um.v] at *
  generalize g.length = m at *
  go_enter Tryd.func3, Tryd.ntmps3
  go_wp2_with fail
  refine c1.mono ?_
  rintro e w1 ⟨rfl, E1⟩
  have X1 : Hid (Ext w w1) := E1
  have c2' := c2.out w1 E1
  have c3' := c3.out w1 E1
  clear c1 c2 c3 E1
  go_wp2_with fail
  refine c2'.mono ?_
  rintro e w2 ⟨rfl, rfl⟩
  clear c2'
  go_wp2_with fail
  refine c3'.mono ?_
  intro e w3 h3
  obtain ⟨v, rfl, O⟩ := h3.out
  have X3 : Hid (Ext w w3) := X1.out.trans O.1
  obtain ⟨Y, rfl, ez, _⟩ := O.us
  obtain ⟨aY, cY, gY⟩ := Y
  have hY : gY.length = 2 ^ k := by rw [← hlen, ← ez]
  simp only [Um.v] at *
  rw [hY]
  clear c3' h3 O ez hY X1 hlen
  generalize 2 ^ k = X at *
  have hz : ((X : Int) == (X : Int)) = true := by simp
  go_wp2
  go_ret
  exact ⟨ret_bool (by first | rfl | simp), X3.out⟩

theorem spanSizes_walk (n : Int) (x : Um) (hb : ∀ y ∈ x.z, y < 4294967296) (w : World) (hx : Us w x) (hT : TB w) :
    Calls Tryd.prog 3 #[.int .i64 n, x.v] w fun e w' => e = .returned (.bool true) ∧ Ext w w' := by
  by_cases h : re n x.z = 0
  · obtain ⟨m, rfl, h1, h2, h3⟩ := re_zero h
    exact spanSizes_good m h1 x h2 h3 w hx hT
  · exact spanSizes_bad n x hb h w hx

set_option maxRecDepth 100000 in
theorem spanSizes_lifted (os : Os) (started : os.Started) (H : Type) (enc : TypeId × Value → H) :
    ReturnsInHanded {} Tryd.checked os 3 .any (fun w args => (Rows.spanSizesSpec.pre enc Tryd.prog Tryd.f3 [] false w args ∧ laidMetH Tryd.prog Rows.spanSizesRow.laid w) ∧ sizedMet enc Tryd.prog Tryd.f3 (OpenSpec.ofChange Rows.spanSizesSpec) false w args)
      (Rows.spanSizesSpec.post enc Tryd.prog Tryd.f3 false true false false) := by
  refine returnsInHanded_of_change_and (C := Tryd.checked) (X := fun w _ => laidMetH Tryd.prog Rows.spanSizesRow.laid w) (fun _ _ _ hh h => h.of_heap hh) own started (by kernel_rfl) Tryd.func3
    (ChangeSpec.witness_shaped (enc := enc) (C := Tryd.checked) (os := os) (X := fun w _ => laidMetH Tryd.prog Rows.spanSizesRow.laid w) false (World.doorLaid Tryd.prog 400 os) #[.int .i64 0, .slice none 0 0] 8 rfl (World.shaped_of_RefB (by kernel_rfl) (by kernel_rfl)) (by kernel_rfl) (by kernel_rfl) (by kernel_rfl) (door_met os _)) ?_
  intro W base args ds gs before hval0 hW _ _ hL _
  have hval : ∀ (j : Nat) t v, Tryd.f3.params[j]? = some t → args[j]? = some v → Value.okWide Tryd.prog W .any base t v := hval0
  have hW' := hW
  obtain ⟨p, q, hA0, hV, rfl, hfz, hnd⟩ := hW
  have hA : DataW.TrodAll enc Tryd.prog W 0 (fun _ => true) true Tryd.f3.params.toList args.toList ds p := hA0
  rw [Tryd.params3] at hA hval
  obtain ⟨v0, vs0, d0, ds0, p0, q0, hargs, rfl, rfl, h0, r0⟩ := trodAll_cons hA
  obtain ⟨v1, vs1, d1, ds1, p1, q1, rfl, rfl, rfl, h1, r1⟩ := trodAll_cons r0
  obtain ⟨rfl, rfl, rfl⟩ := trodAll_nil r1
  obtain rfl : args = #[v0, v1] := by cases args; simp_all
  obtain ⟨rfl, rfl⟩ := trodVars_none hV
  have lt0 : ∀ x ∈ p0, x.block < W.heap.size := by obtain ⟨m, hm⟩ := h0; exact DataW.trod_lt m _ _ _ hm
  obtain ⟨x0, rfl, -, -, wf0⟩ := open_int Tryd.underlying3 (hval 0 3 v0 rfl rfl) h0
  have lt1 : ∀ x ∈ p1, x.block < W.heap.size := by obtain ⟨m, hm⟩ := h1; exact DataW.trod_lt m _ _ _ hm
  obtain ⟨x1, rfl, w1, b1⟩ := open_us (hval 1 22 v1 rfl rfl) h1
  clear hA0 hval0
  refine (spanSizes_walk x0 x1 b1 W w1 (of_laid hL)).mono fun e W' ⟨he, bel⟩ => ?_
  subst he
  exact ⟨_, rfl, _, _, _, [], _, [], hW', trodAll_mk1 (shut_bool Tryd.underlying4 _), (trodAll_cons_mk (Below.trod laidOut (by kernel_rfl) (of_decide_eq_true (by kernel_rfl)) h0 bel lt0) (trodAll_cons_mk (Below.trod laidOut (by kernel_rfl) (of_decide_eq_true (by kernel_rfl)) h1 bel lt1) trodAll_mk0)), rfl, bel.frame _, fun h => by cases h⟩

theorem spanSizes_holds : Rows.SpanSizesSaid :=
  OpenClaim.holds_of_wide 3 Tryd.f3 rfl rfl rfl rfl rfl rfl rfl ⟨rfl, rfl, rfl, rfl, rfl⟩ rfl rfl rfl rfl rfl (by kernel_rfl) Tryd.func3 (by kernel_rfl)
    (of_decide_eq_true (by kernel_rfl)) (by unfold Func.isWrapper; first | (rw [if_pos (by decide +kernel)]; kernel_rfl) | (rw [if_neg (by decide +kernel)]; exact ⟨rfl, rfl⟩))
    (fun os started H enc _ => spanSizes_lifted os started H enc)

/-- The tied card. -/
theorem spanSizes_card : Rows.SpanSizesCardSaid :=
  Claim7.holds_tied_plain_at .later [] [.data, .data] true (true, "dfa69728f061f7cb8e5dadd0c73ffce6eb96585541e60c330fb3e399d293492d") false
    spanSizes_holds (fun _ h => by cases h) (by kernel_rfl) (fun _ h => by cases h) spanSizes_row_tie rfl ⟨rfl, rfl⟩ (by kernel_rfl) rfl
    (fun f fn hf hfn => by
      obtain rfl : f = 3 := Option.some.inj ((show Tryd.prog.funcNamed "quipu/quipulaw.SpanSizes" = some 3 by kernel_rfl).symm.trans hf) |>.symm
      obtain rfl : fn = Tryd.f3 := (Option.some.inj (Tryd.func3.symm.trans hfn)).symm
      exact ⟨by kernel_rfl, fun j t ht => by
        rw [Tryd.params3] at ht
        have hm : t ∈ [3, 22] := by simpa using Array.mem_of_getElem? ht
        have hall : ([3, 22].all fun u => !Tryd.prog.wantsStandIn u) = true := by kernel_rfl
        exact (show Tryd.prog.wantsStandIn t = false by simpa using List.all_eq_true.1 hall t hm)⟩)
    (by kernel_rfl)

#print axioms spanSizes_card

end Go.Proofs.YtdfjjjcaibadoaaDoor
