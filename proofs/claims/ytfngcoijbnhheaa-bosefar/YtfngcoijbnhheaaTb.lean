/-
  bose.turnedBy.
-/
import Derived.Test.YtfngcoijbnhheaaLf
import Derived.Deep.WholeRow
namespace Go.Proofs.Ytfngcoijbnhheaa
open Go.RowKit
set_option linter.unusedVariables false

/-- What is told: the bits that are found, and whether there are any. -/
def tv (o : Option (List Bool)) : Value := .tuple #[.agg (bv (o.getD zs)).toArray, .bool o.isSome]
/-- What turnedBy is to tell where no more than m are to be found. -/
def TB (m : Nat) : Prop := ∀ (x : Nat), x < 256 → ∀ p : Nat, p ≤ 15 → ∀ w, Calls Try.prog 17 #[.int .u32 x, .int .i64 p, .int .i64 m] w fun e w' => e = .returned (tv (sr m x p)) ∧ Ext w w'

theorem tv_zero : tv (some zs) = .tuple #[.agg (List.replicate 15 (Value.bool false)).toArray, .bool true] := by rfl
theorem tv_none : tv none = .tuple #[.agg (List.replicate 15 (Value.bool false)).toArray, .bool false] := by rfl

/-- What is handed back out of a block and a slot. -/
theorem ret_arr {fn : Func} (h : fn.results = #[.cell 6 41, .tmp 7]) (tmps : Array Value) (w : World) (B : Nat) (L : List Value) (b : Bool) (hp : tmps.getD 6 undef = .pointer (some ⟨B, 0, none⟩)) (hb : tmps.getD 7 undef = .bool b) (hr : Row w B 41 L) (hl : L.length = 15) :
    (results fn tmps).run Try.prog w = .ok (.tuple #[.agg L.toArray, .bool b]) w := by
  rw [results_cell_tmp h, hp, hb]
  have := run_loadVar_row (P := Try.prog) w B 41 41 L.toArray (0, 0) _ hr under41 rfl (by rw [size41]; simp [hl])
  simp [asAddr, Result.andThen, this]
theorem row_new (w : World) (L : List Value) : Row (w.alloc (.cells L.toArray 41)) w.heap.size 41 L := by
  show (w.alloc _).heap[_]? = _
  rw [heap_alloc_new]

theorem turnedBy_found (m p : Nat) (w : World) : Calls Try.prog 17 #[.int .u32 0, .int .i64 p, .int .i64 m] w fun e w' => e = .returned (tv (some zs)) ∧ Ext w w' := by
  go_enter Try.func17, Try.ntmps17
  go_wp2_with fail
  exact bodyPost_ret (ret_arr rfl _ _ _ _ _ rfl rfl (row_new w (List.replicate 15 (.bool false))) rfl) rfl ⟨rfl, (Ext.refl w).alloc _⟩
theorem turnedBy_none (x p : Nat) (hx : x ≠ 0) (w : World) : Calls Try.prog 17 #[.int .u32 x, .int .i64 p, .int .i64 0] w fun e w' => e = .returned (tv none) ∧ Ext w w' := by
  have hz : ¬ (x : Int) = 0 := by omega
  go_enter Try.func17, Try.ntmps17
  go_wp2_with fail
  exact bodyPost_ret (ret_arr rfl _ _ _ _ _ rfl rfl (row_new w (List.replicate 15 (.bool false))) rfl) rfl ⟨rfl, (Ext.refl w).alloc _⟩

theorem tb_zero : TB 0 := fun x hx p hp w => by
  by_cases h : x = 0
  · subst h
    exact turnedBy_found 0 p w
  · rw [show sr 0 x p = none from if_neg h]
    exact turnedBy_none x p h w

theorem tr_more {f : Nat → Option (List Bool)} {k : Nat} (hk : k < 15) : tr f (15 - k) k = match f k with
    | some b => some (b.set k true)
    | none => tr f (15 - (k + 1)) (k + 1) := by
  rw [show 15 - k = (15 - (k + 1)) + 1 by omega]
  rfl

/-- A whole row into the block that was made last, as a walk meets it. -/
theorem store_new (w : World) (L M : List Value) (hM : M.length = 15) (hL : L.length = 15) (h1 : ∀ v ∈ L, v.oneCell' = true) :
    Sem.run Try.prog (storeCells ⟨w.heap.size, 0, none⟩ L) (w.alloc (.cells M.toArray 41)) = .ok () (w.alloc (.cells L.toArray 41)) :=
  run_storeCells_new (P := Try.prog) w 41 M.toArray L.toArray (by rw [size41]; simp [hL]) (by simp [hL, hM]) (by simpa using h1)
/-- A whole row out of a block. -/
theorem wpList_loadA {ops : Array Oper} {rest : List Oper} {o : Oper} {a : Act} {w : World} {Q : Exit → Act → World → Prop} (hgd : o.guard = none) (x : Operand) (ho : o.op = .load 41 x)
    (B : Nat) (hx : a.eval x = .pointer (some ⟨B, 0, none⟩)) (L : List Value) (hr : Row w B 41 L) (hL : L.length = 15)
    (h : wpList Try.prog ops Q rest (a.put o.dst (.agg L.toArray)) w) : wpList Try.prog ops Q (o :: rest) a w :=
  wpList_load_row hgd 41 x ho B hx 41 L.toArray (0, 0) _ hr under41 rfl (by rw [size41]; simp [hL]) h
/-- A whole row into a block. -/
theorem wpList_storeA {ops : Array Oper} {rest : List Oper} {o : Oper} {a : Act} {w : World} {Q : Exit → Act → World → Prop} (hgd : o.guard = none) (x y : Operand) (ho : o.op = .store 41 x y)
    (B : Nat) (L M : List Value) (hx : a.eval x = .pointer (some ⟨B, 0, none⟩)) (hy : a.eval y = .agg L.toArray) (hr : Row w B 41 M) (hM : M.length = 15) (hL : L.length = 15) (h1 : ∀ v ∈ L, v.oneCell' = true)
    (h : wpList Try.prog ops Q rest (a.put o.dst undef) (w.setRow B L.toArray)) : wpList Try.prog ops Q (o :: rest) a w :=
  wpList_store_row hgd 41 x y ho B L.toArray hx hy 41 M.toArray hr (by rw [size41]; simp [hL]) (by simp [hL, hM]) (by simpa using h1) h
theorem bv_one (l : List Bool) : ∀ v ∈ bv l, v.oneCell' = true := fun v hv => by
  obtain ⟨q, _, rfl⟩ := List.mem_map.1 hv
  rfl

set_option maxHeartbeats 2000000 in
theorem tb_next (m : Nat) (hm1 : m ≤ 1) (ih : TB m) : TB (m + 1) := fun x hx p hp w => by
  by_cases h : x = 0
  · subst h
    exact turnedBy_found (m + 1) p w
  obtain ⟨O, hO⟩ : ∃ O : Nat → Option (List Bool), ∀ k, O k = sr m (x ^^^ lo k) (k + 1) := ⟨_, fun _ => rfl⟩
  have e0 : sr (m + 1) x p = tr O (15 - p) p := by
    rw [show O = fun q => sr m (x ^^^ lo q) (q + 1) from funext hO]
    exact if_neg h
  rw [e0]
  have HO : Hid (∀ k, k < 15 → (O k).getD zs = (O k).getD zs ∧ ((O k).getD zs).length = 15) := fun k hk => ⟨rfl, by
    rw [hO]
    cases hs : sr m (x ^^^ lo k) (k + 1) with
    | none => exact List.length_replicate
    | some b => exact sr_len _ _ _ _ hs⟩
  have HX : Hid (∀ k : Nat, k < 15 → bits BinOp.xor IntKind.u32 (x : Int) (lo k : Int) = ((x ^^^ lo k : Nat) : Int)) := fun k hk => by
    have := lo_lt k hk
    exact u32_xor_nat _ _ (by omega) (by omega)
  have HC : Hid (∀ k : Nat, k < 15 → ∀ W, Calls Try.prog 17 #[.int .u32 (x ^^^ lo k : Nat), .int .i64 (k + 1 : Nat), .int .i64 m] W fun e w' => e = .returned (.tuple #[.agg (bv ((O k).getD zs)).toArray, .bool (O k).isSome]) ∧ Ext W w') := fun k hk W => by
    have := ih (x ^^^ lo k) (Nat.xor_lt_two_pow (n := 8) hx (lo_lt k hk)) (k + 1) (by omega) W
    rw [← hO] at this
    exact this
  have HL : Hid (∀ k : Nat, k < 15 → ∀ W, Calls Try.prog 26 #[.int .i64 k] W fun e w' => e = .returned (.int .u32 (lo k : Nat)) ∧ Ext W w') := fun k hk W => leftOfOne_any k hk W
  have HT : Hid (∀ k, k < 15 → tr O (15 - k) k = match O k with
    | some b => some (b.set k true)
    | none => tr O (15 - (k + 1)) (k + 1)) := fun k hk => tr_more hk
  have HE : Hid (tr O (15 - 15) 15 = none) := rfl
  have hz : ¬ (x : Int) = 0 := by omega
  have hm : ¬ (m : Int) + 1 = 0 := by omega
  clear hO e0 ih
  generalize hR : tr O (15 - p) p = R at *
  have HR : Hid (tr O (15 - p) p = R) := hR
  clear hR
  go_enter Try.func17, Try.ntmps17
  go_wp2_with fail
  go_loopg [8] 15 (fun gg s8 wr => ∃ k : Nat, k ≤ 15 ∧ 15 - k ≤ gg ∧ s8 = .int .i64 k ∧ Aside (tr O (15 - k) k = R) ∧ Aside (Ext w wr) ∧ Aside (Row wr w.heap.size 41 (List.replicate 15 (.bool false))))
  case atStart => exact ⟨p, hp, by omega, rfl, HR.out, (Ext.refl w).alloc _, row_new w (List.replicate 15 (.bool false))⟩
  case round =>
    obtain ⟨k, hk, hgg, rfl, TR, E, X⟩ := hrel
    by_cases hlt : k < 15
    · have hltz : (k : Int) < 15 := by omega
      have c1 := HL.out k hlt wr
      have c2 : Hid (∀ W, Calls Try.prog 17 #[.int .u32 (x ^^^ lo k : Nat), .int .i64 (k + 1 : Nat), .int .i64 m] W fun e w' => e = .returned (.tuple #[.agg (bv ((O k).getD zs)).toArray, .bool (O k).isSome]) ∧ Ext W w') := HC.out k hlt
      have ex := HX.out k hlt
      have tk := HT.out k hlt
      have ol := (HO.out k hlt).2
      have TR' : Hid (tr O (15 - k) k = R) := TR.out
      have E' : Hid (Ext w wr) := E.out
      have X' : Hid (Row wr w.heap.size 41 (List.replicate 15 (.bool false))) := X.out
      clear HL HC HX HT HO HE HR TR E X
      generalize lo k = y at *
      generalize x ^^^ y = z at *
      go_wp2_with fail
      refine c1.mono ?_
      rintro e w2 ⟨rfl, E2⟩
      clear c1
      have E2' : Hid (Ext wr w2) := E2
      clear E2
      have ew : wrap64 (m : Int) = m := by simp only [wrap64]; omega
      go_wp2_with fail
      refine (c2.out w2).mono ?_
      rintro e w3 ⟨rfl, E3⟩
      have E3' : Hid (Ext wr w3) := E2'.out.trans E3
      clear c2 E2' E3 ew
      have hst := store_new w3 (bv ((O k).getD zs)) (List.replicate 15 (.bool false)) rfl (by unfold bv; rw [List.length_map]; exact ol) (bv_one _)
      generalize hL : (O k).getD zs = L at *
      have hst' : Sem.run Try.prog (storeCells ⟨w3.heap.size, 0, none⟩ (bv L)) (w3.alloc (.cells #[.bool false, .bool false, .bool false, .bool false, .bool false, .bool false, .bool false, .bool false, .bool false, .bool false, .bool false, .bool false, .bool false, .bool false, .bool false] 41)) = .ok () (w3.alloc (.cells (bv L).toArray 41)) := hst
      clear hst
      cases hs : O k with
      | none =>
        have TN : Hid (tr O (15 - (k + 1)) (k + 1) = R) := by rw [hs] at tk; exact tk.symm.trans TR'.out
        clear hs tk TR' hL
        have E4 : Hid (Ext w (w3.alloc (.cells (bv L).toArray 41))) := (E'.out.trans E3'.out).alloc _
        have X4 : Hid (Row (w3.alloc (.cells (bv L).toArray 41)) w.heap.size 41 (List.replicate 15 (.bool false))) := (X'.out.ext E3'.out).ext ((Ext.refl w3).alloc _)
        clear E' E3' X'
        go_wp2
        go_roundg (15 - (k + 1))
        case measure => omega
        case rel => exact ⟨k + 1, by omega, by omega, by go_num, TN.out, E4.out, X4.out⟩
      | some b =>
        have TN : Hid (R = some (L.set k true)) := by
          rw [hs] at tk hL
          have : b = L := hL
          rw [← this]
          exact TR'.out.symm.trans tk
        clear hs tk TR' hL
        have hlen : ((bv L).set k (.bool true)).length = 15 := by rw [List.length_set]; unfold bv; rw [List.length_map]; exact ol
        have hone : ∀ v ∈ (bv L).set k (.bool true), v.oneCell' = true := by
          have : (bv L).set k (.bool true) = bv (L.set k true) := by unfold bv; rw [List.map_set]
          rw [this]
          exact bv_one _
        have X4 : Row (w3.alloc (.cells ((bv L).set k (.bool true)).toArray 41)) w.heap.size 41 (List.replicate 15 (.bool false)) := (X'.out.ext E3'.out).ext ((Ext.refl w3).alloc _)
        have XR : Hid (Row ((w3.alloc (.cells ((bv L).set k (.bool true)).toArray 41)).setRow w.heap.size ((bv L).set k (.bool true)).toArray) w.heap.size 41 ((bv L).set k (.bool true))) := setRow_heap _ _ _ _ _ _ X4
        have ER : Hid (Ext w ((w3.alloc (.cells ((bv L).set k (.bool true)).toArray 41)).setRow w.heap.size ((bv L).set k (.bool true)).toArray)) :=
          Below.trans ((E'.out.trans E3'.out).alloc _) ⟨rfl, rfl, rfl, by simp [World.setRow], fun j hj => setRow_other _ _ j _ (by omega)⟩
        have HLn : Hid (((bv L).set k (.bool true)).length = 15) := hlen
        have HV : Hid ((Value.tuple #[.agg ((bv L).set k (.bool true)).toArray, .bool true]) = tv R) := by
          show _ = _
          rw [TN.out]
          unfold tv
          have : (bv L).set k (.bool true) = bv (L.set k true) := by unfold bv; rw [List.map_set]
          rw [this]; rfl
        have XL : Hid (Row (w3.alloc (.cells ((bv L).set k (.bool true)).toArray 41)) w3.heap.size 41 ((bv L).set k (.bool true))) := row_new w3 _
        have XS : Hid (Row (w3.alloc (.cells ((bv L).set k (.bool true)).toArray 41)) w.heap.size 41 (List.replicate 15 (.bool false))) := X4
        have HO1 : Hid (∀ v ∈ (bv L).set k (.bool true), v.oneCell' = true) := hone
        clear X4 E' E3' X' hone hlen TN
        go_wp2_with (first | (refine wpList_loadA rfl _ (by rfl) w3.heap.size (by rfl) ((bv L).set k (.bool true)) XL.out HLn.out ?_) | (refine wpList_storeA rfl _ _ (by rfl) w.heap.size ((bv L).set k (.bool true)) _ (by rfl) (by rfl) XS.out rfl HLn.out HO1.out ?_))
        exact bodyPost_ret (ret_arr rfl _ _ _ _ _ rfl rfl XR.out HLn.out) rfl ⟨by rw [HV.out], ER.out⟩
    · obtain rfl : k = 15 := by omega
      have hltz : ¬ (15 : Int) < 15 := by omega
      have HV : Hid ((Value.tuple #[.agg (List.replicate 15 (Value.bool false)).toArray, .bool false]) = tv R) := by
        show _ = _
        rw [← TR.out]; rfl
      have XS : Hid (Row wr w.heap.size 41 (List.replicate 15 (.bool false))) := X.out
      have XR : Hid (Row (wr.setRow w.heap.size (List.replicate 15 (Value.bool false)).toArray) w.heap.size 41 (List.replicate 15 (.bool false))) := setRow_heap _ _ _ _ _ _ X.out
      have ER : Hid (Ext w (wr.setRow w.heap.size (List.replicate 15 (Value.bool false)).toArray)) :=
        Below.trans E.out ⟨rfl, rfl, rfl, by simp [World.setRow], fun j hj => setRow_other _ _ j _ (by omega)⟩
      have HO1 : Hid (∀ v ∈ List.replicate 15 (Value.bool false), v.oneCell' = true) := bv_one zs
      clear HL HC HX HT HO HE HR TR E X
      go_wp2_with (refine wpList_storeA rfl _ _ (by rfl) w.heap.size (List.replicate 15 (.bool false)) _ (by rfl) (by rfl) XS.out rfl rfl HO1.out ?_)
      exact bodyPost_ret (ret_arr rfl _ _ _ _ _ rfl rfl XR.out rfl) rfl ⟨by rw [HV.out], ER.out⟩

theorem turnedBy_any (x : Nat) (hx : x < 256) (w : World) : Calls Try.prog 17 #[.int .u32 x, .int .i64 0, .int .i64 2] w fun e w' => e = .returned (tv (sr 2 x 0)) ∧ Ext w w' :=
  tb_next 1 (by omega) (tb_next 0 (by omega) tb_zero) x hx 0 (by omega) w

end Go.Proofs.Ytfngcoijbnhheaa
