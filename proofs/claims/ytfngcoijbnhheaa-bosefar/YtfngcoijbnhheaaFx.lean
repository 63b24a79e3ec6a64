/-
  bose.Put, bose.Fix.
-/
import Derived.Test.YtfngcoijbnhheaaBk
import Derived.Test.YtfngcoijbnhheaaMix
namespace Go.Proofs.Ytfngcoijbnhheaa
open Go.RowKit
set_option linter.unusedVariables false

theorem bPut_bad (x : Wd) (hl : x.l.length ≠ 7) (w : World) : Calls Try.prog 7 #[x.v] w fun e w' => e = .returned (.tuple #[.slice none 0 0, .int .i64 3]) ∧ w' = w := by
  simp only [Wd.v]
  have hz : ¬ (x.l.length : Int) = 7 := by omega
  generalize x.l.length = n at *
  go_enter Try.func7, Try.ntmps7
  go_wp2
  go_ret2
  exact ⟨rfl, rfl⟩
theorem bPut_good (x : Wd) (hl : x.l.length = 7) (w : World) (hx : Bits w x) : Calls Try.prog 7 #[x.v] w fun e w' => ∃ d : Wd, e = .returned (.tuple #[d.v, .int .i64 0]) ∧ d.l = bo x.l ∧ Bits w' d ∧ Ext w w' := by
  have c1 := Put_good 465 x G465 (by rw [hl]; decide) (by rw [hl, log465]; omega) w hx
  simp only [Wd.v] at *
  rw [hl] at *
  go_enter Try.func7, Try.ntmps7
  go_wp2_with fail
  refine c1.mono ?_
  rintro e w1 ⟨d, rfl, hd, hb, E⟩
  have HD : Hid (d.l = bo x.l ∧ Bits w1 d ∧ Ext w w1) := ⟨hd, hb, E⟩
  clear c1 hd hb E
  go_wp2
  go_ret2
  exact ⟨d, by rfl, HD.out⟩

theorem res3 {fn : Func} {p q r : Tmp} (h : fn.results = #[.tmp p, .tmp q, .tmp r]) (tmps : Array Value) (P : Program) (w : World) :
    (results fn tmps).run P w = .ok (.tuple #[tmps.getD p undef, tmps.getD q undef, tmps.getD r undef]) w := by
  simp [results, h]

/-- A whole row is read. -/
theorem loadA_run {o : Oper} {ev : Operand → Value} {w : World} (x : Operand) (ho : o.op = .load 41 x) (B : Nat) (hx : ev x = .pointer (some ⟨B, 0, none⟩)) (L : List Value) (hr : Row w B 41 L) (hL : L.length = 15) :
    (execOp ev o).run Try.prog w = .ok (.value (.agg L.toArray)) w := by
  unfold execOp
  simp only [ho, hx, Instr.loadAt, Instr.sureAddr, Sem.run_bind, Sem.run_pure, Result.andThen_ok, run_loadVar_row (P := Try.prog) w B 41 41 L.toArray (0, 0) _ hr under41 rfl (by rw [size41]; simp [hL])]

theorem bFix_bad (x : Wd) (hl : x.l.length ≠ 15) (w : World) : Calls Try.prog 10 #[x.v] w fun e w' => e = .returned (.tuple #[.slice none 0 0, .int .i64 0, .int .i64 3]) ∧ w' = w := by
  simp only [Wd.v]
  have hz : ¬ (x.l.length : Int) = 15 := by omega
  generalize x.l.length = n at *
  go_enter Try.func10, Try.ntmps10
  go_wp2
  exact bodyPost_ret (res3 rfl _ _ _) rfl ⟨rfl, rfl⟩

theorem bFix_none (x : Wd) (hl : x.l.length = 15) (hn : fx x.l = none) (w : World) (hx : Bits w x) : Calls Try.prog 10 #[x.v] w fun e w' => e = .returned (.tuple #[.slice none 0 0, .int .i64 0, .int .i64 5]) ∧ Ext w w' := by
  have c1 := leftOf_any x hl w hx
  have hlt : rs 465 x.l < 256 := by have := rs_lt G465 x.l; rw [log465] at this; exact this
  have c2 := turnedBy_any (rs 465 x.l) hlt w
  have hs : sr 2 (rs 465 x.l) 0 = none := by
    unfold fx at hn
    cases h : sr 2 (rs 465 x.l) 0 with
    | none => rfl
    | some t => rw [h] at hn; cases hn
  rw [hs, tv_none] at c2
  simp only [Wd.v] at *
  rw [hl] at *
  generalize rs 465 x.l = r at *
  clear hs hn hx hlt
  go_enter Try.func10, Try.ntmps10
  go_wp2_with fail
  refine c1.mono ?_
  rintro e w1 ⟨rfl, rfl⟩
  clear c1
  go_wp2_with fail
  refine c2.mono ?_
  rintro e w2 ⟨rfl, E⟩
  have E' : Hid (Ext w1 w2) := E
  clear c2 E
  go_wp2
  exact bodyPost_ret (res3 rfl _ _ _) rfl ⟨rfl, E'.out.alloc _⟩

set_option maxHeartbeats 2000000 in
theorem bFix_some (x : Wd) (hl : x.l.length = 15) (d : List Bool) (n : Nat) (hn : fx x.l = some (d, n)) (w : World) (hx : Bits w x) : Calls Try.prog 10 #[x.v] w fun e w' => ∃ y : Wd, e = .returned (.tuple #[y.v, .int .i64 n, .int .i64 0]) ∧ y.l = d ∧ Bits w' y ∧ Ext w w' := by
  have c1 := leftOf_any x hl w hx
  have hlt : rs 465 x.l < 256 := by have := rs_lt G465 x.l; rw [log465] at this; exact this
  have c2 := turnedBy_any (rs 465 x.l) hlt w
  obtain ⟨t, hs, rfl, rfl⟩ : ∃ t, sr 2 (rs 465 x.l) 0 = some t ∧ bl (fun i => x.l.getD i false != t.getD i false) 7 = d ∧ ct (fun i => t.getD i false) 15 = n := by
    unfold fx at hn
    cases h : sr 2 (rs 465 x.l) 0 with
    | none => rw [h] at hn; cases hn
    | some t =>
      rw [h] at hn
      simp only [Option.map_some, Option.some.injEq, Prod.mk.injEq] at hn
      exact ⟨t, rfl, hn.1, hn.2⟩
  have ht := sr_len _ _ _ _ hs
  rw [hs] at c2
  have c2' : Calls Try.prog 17 #[.int .u32 (rs 465 x.l : Nat), .int .i64 0, .int .i64 2] w fun e w' => e = .returned (.tuple #[.agg (bv t).toArray, .bool true]) ∧ Ext w w' := c2
  have c3 : Hid (∀ W, Ext w W → Calls Try.prog 19 #[.agg (bv t).toArray, x.v] W fun e w' => ∃ y : Wd, e = .returned y.v ∧ y.l = bl (fun i => x.l.getD i false != t.getD i false) 7 ∧ Bits w' y ∧ Ext W w') := fun W E => back_any t ht x hl W (hx.ext E)
  have c4 : Hid (∀ W, Calls Try.prog 20 #[.agg (bv t).toArray] W fun e w' => e = .returned (.int .i64 (ct (fun i => t.getD i false) 15 : Nat)) ∧ Ext W w') := fun W => count_any t ht W
  have HL : Hid ((bv t).length = 15) := by show _ = _; unfold bv; rw [List.length_map]; exact ht
  have HO : Hid (∀ v ∈ bv t, v.oneCell' = true) := bv_one t
  clear c2 hs ht hlt hx
  simp only [Wd.v] at *
  rw [hl] at *
  generalize rs 465 x.l = r at *
  generalize bl (fun i => x.l.getD i false != t.getD i false) 7 = d at *
  generalize ct (fun i => t.getD i false) 15 = n at *
  generalize bv t = L at *
  go_enter Try.func10, Try.ntmps10
  go_wp2_with fail
  refine c1.mono ?_
  rintro e w1 ⟨rfl, rfl⟩
  clear c1
  go_wp2_with fail
  refine c2'.mono ?_
  rintro e w2 ⟨rfl, E⟩
  have E' : Hid (Ext w1 w2) := E
  clear c2' E
  go_wp2_with (refine wpList_storeA rfl _ _ (by rfl) w2.heap.size L (List.replicate 15 (.bool false)) (by rfl) (by rfl) (row_new w2 _) rfl HL.out HO.out ?_)
  obtain ⟨W3, hW3⟩ : ∃ W3, W3 = (w2.alloc (.cells (List.replicate 15 (Value.bool false)).toArray 41)).setRow w2.heap.size L.toArray := ⟨_, rfl⟩
  have R3 : Hid (Row W3 w2.heap.size 41 L) := by rw [hW3]; exact setRow_heap _ _ _ _ _ _ (row_new w2 _)
  have E3 : Hid (Ext w1 W3) := by
    rw [hW3]
    have hsz : w1.heap.size ≤ w2.heap.size := E'.out.size
    exact Below.trans (E'.out.alloc _) ⟨rfl, rfl, rfl, by simp [World.setRow], fun j hj => setRow_other _ _ j _ (by omega)⟩
  have hW3' : (w2.alloc (.cells #[.bool false, .bool false, .bool false, .bool false, .bool false, .bool false, .bool false, .bool false, .bool false, .bool false, .bool false, .bool false, .bool false, .bool false, .bool false] 41)).setRow w2.heap.size L.toArray = W3 := hW3.symm
  rw [hW3']
  clear hW3 hW3' E' HO
  generalize w2.heap.size = B at *
  refine wp_region_mix (fun W => Ext W3 W) 8 (by rfl) (by kernel_rfl) ?_
  refine wpMix_take (v := .agg L.toArray) 0 (by rfl) (by kernel_rfl) ⟨by rfl, ?_⟩ ?_
  · rintro W hW
    exact loadA_run _ (by rfl) B (by rfl) L (R3.out.ext hW) HL.out
  refine wpMix_take (v := .slice x.a 15 x.c) 1 (by rfl) (by kernel_rfl) ⟨by rfl, ?_⟩ ?_
  · rintro W -
    go_simp
  refine wpMix_take (v := .agg L.toArray) 3 (by rfl) (by kernel_rfl) ⟨by rfl, ?_⟩ ?_
  · rintro W hW
    exact loadA_run _ (by rfl) B (by rfl) L (R3.out.ext hW) HL.out
  have ED : Ext W3 W3.drew := ext_drew W3
  refine wpMix_only 2 (by kernel_rfl) ED ?_
  refine mOp_call (f := 19) (args := #[.agg L.toArray, .slice x.a 15 x.c]) (w' := W3.drew) (by rfl) (by rfl) ?_ ?_
  · go_simp
  refine (c3.out W3.drew (E3.out.trans ED)).mono ?_
  rintro e w4 ⟨y, rfl, hy, hby, E4⟩
  have X4 : Ext W3 w4 := ED.trans E4
  refine ⟨_, rfl, ?_⟩
  refine wpMix_only 4 (by kernel_rfl) X4 ?_
  refine mOp_call (f := 20) (args := #[.agg L.toArray]) (w' := w4) (by rfl) (by rfl) ?_ ?_
  · go_simp
  refine (c4.out w4).mono ?_
  rintro e w5 ⟨rfl, E5⟩
  have X5 : Ext W3 w5 := X4.trans E5
  refine ⟨_, rfl, ?_⟩
  have Y5 : Hid (y.l = d ∧ Bits w5 y) := ⟨hy, hby.ext E5⟩
  clear hy hby
  refine wpMix_take (v := y.v) 5 (by rfl) (by kernel_rfl) ⟨by rfl, ?_⟩ ?_
  · rintro W -
    go_simp
  refine wpMix_take (v := .int .i64 n) 6 (by rfl) (by kernel_rfl) ⟨by rfl, ?_⟩ ?_
  · rintro W -
    go_simp
  refine wpMix_take (v := .int .i64 0) 7 (by rfl) (by kernel_rfl) ⟨by rfl, ?_⟩ ?_
  · rintro W -
    go_simp
  refine wpMix_done (by kernel_rfl) X5 ?_
  have EE : Hid (Ext w1 w5) := E3.out.trans X5
  clear c3 c4 R3 E3 ED X4 X5 E4 E5
  go_wp2
  refine bodyPost_ret (v := .tuple #[y.v, .int .i64 n, .int .i64 0]) ?_ rfl ⟨y, rfl, Y5.out.1, Y5.out.2, EE.out⟩
  rw [res3 rfl]
  simp [Act.put]

end Go.Proofs.Ytfngcoijbnhheaa
