/-
  trellis.longer.
-/
import Derived.Test.YtnkhlohoaoiefaaDoorPa
import Derived.Test.YtnkhlohoaoiefaaDoorLoud
namespace Go.Proofs.YtnkhlohoaoiefaaDoor
open Go.RowKit
set_option linter.unusedVariables false

/-- All states. -/
def tabV : Array Value := #[.bool false, .bool false, .bool false, .bool true, .bool true, .bool false, .bool true, .bool true]
/-- The table of all states lies there. -/
def TB (w : World) : Prop := ∃ t fr, w.heap[0]? = some (.cells tabV t fr)
theorem TB.ext {w w' : World} (h : TB w) (e : Ext w w') : TB w' := by
  obtain ⟨t, fr, h⟩ := h
  exact ⟨t, fr, by rw [e.block 0 (lt_of_block h)]; exact h⟩
theorem sizeTab : (Tryd.prog.info? 52).map (·.size) = some tabV.size := by kernel_rfl
theorem wpList_loadTab {ops : Array Oper} {rest : List Oper} {o : Oper} {a : Act} {w : World} {Q : Exit → Act → World → Prop} (hgd : o.guard = none) (x : Operand) (ho : o.op = .load 52 x)
    (hx : a.eval x = .pointer (some ⟨0, 0, none⟩)) (hr : TB w)
    (h : wpList Tryd.prog ops Q rest (a.put o.dst (.agg tabV)) w) : wpList Tryd.prog ops Q (o :: rest) a w := by
  obtain ⟨t, fr, hr⟩ := hr
  exact wpList_load_row hgd 52 x ho 0 hx t tabV fr _ hr Tryd.underlying52 rfl sizeTab h
theorem index_tab (k : Nat) (hk : k < 4) (w : World) : Sem.run Tryd.prog (Instr.index 52 (.agg tabV) (.int .i64 (k : Int))) w = .ok (pv (sf k) (ss k)) w := by
  rcases (by omega : k = 0 ∨ k = 1 ∨ k = 2 ∨ k = 3) with rfl | rfl | rfl | rfl <;> kernel_rfl

theorem index_two (j : Nat) (hj : j < 2) (w : World) : Sem.run Tryd.prog (Instr.index 36 (.agg #[.bool false, .bool true]) (.int .i64 (j : Int))) w = .ok (.bool (decide (j = 1))) w := by
  rcases (by omega : j = 0 ∨ j = 1) with rfl | rfl <;> kernel_rfl

theorem pt1_none {m : Mp} {t0 t1 : Bool} {l : Nat × Nat} (h : m t0 t1 = none) : pt1 m t0 t1 l = fun a b => if a = t0 ∧ b = t1 then some l else m a b := by
  unfold pt1
  rw [h]; rfl
theorem pt1_better {m : Mp} {t0 t1 : Bool} {l o : Nat × Nat} (h : m t0 t1 = some o) (hb : bt l o = true) : pt1 m t0 t1 l = fun a b => if a = t0 ∧ b = t1 then some l else m a b := by
  unfold pt1 kp
  rw [h]
  simp only [hb, if_true]
theorem pt1_stay {m : Mp} {t0 t1 : Bool} {l o : Nat × Nat} (h : m t0 t1 = some o) (hb : bt l o = false) : pt1 m t0 t1 l = m := by
  funext a b
  unfold pt1 kp
  rw [h]
  simp only [hb]
  by_cases e : a = t0 ∧ b = t1
  · rw [if_pos e, e.1, e.2, h]; rfl
  · rw [if_neg e]

/-- What lies in memory within the two inner rounds. -/
structure LI (w V : World) (C : Nat) (a b f0 f1 : Bool) (x d n : Nat) (M : Mp) : Prop where
  e : Ext w V
  r : Row V w.heap.size 42 [.bool a, .bool b]
  s : Row V C 37 [.bool f0, .bool f1]
  t : Row V (C + 1) 39 [.int .i64 (x : Int), .int .i64 (d : Int)]
  p : PM V (w.heap.size + 1) n M
theorem LI.ext {w V V' : World} {C : Nat} {a b f0 f1 : Bool} {x d n : Nat} {M : Mp} (h : LI w V C a b f0 f1 x d n M) (e : Ext V V') : LI w V' C a b f0 f1 x d n M :=
  ⟨h.e.trans e, h.r.ext e, h.s.ext e, h.t.ext e, h.p.ext e⟩

theorem LI.put {w V V' : World} {C : Nat} {a b f0 f1 : Bool} {x d n n' : Nat} {M M' : Mp} (h : LI w V C a b f0 f1 x d n M) (hC : w.heap.size + 1 < C) (p : PM V' (w.heap.size + 1) n' M') (g : V.grownBy V' (some (w.heap.size + 1))) (e : Ext w V') : LI w V' C a b f0 f1 x d n' M' :=
  ⟨e, h.r.grownBy g (by omega), h.s.grownBy g (by omega), h.t.grownBy g (by omega), p⟩

/-- A whole path out of a block. -/
theorem wpList_loadT {ops : Array Oper} {rest : List Oper} {o : Oper} {a : Act} {w : World} {Q : Exit → Act → World → Prop} (hgd : o.guard = none) (x : Operand) (ho : o.op = .load 39 x)
    (B : Nat) (hx : a.eval x = .pointer (some ⟨B, 0, none⟩)) (p q : Value) (hr : Row w B 39 [p, q])
    (h : wpList Tryd.prog ops Q rest (a.put o.dst (.agg #[p, q])) w) : wpList Tryd.prog ops Q (o :: rest) a w :=
  wpList_load_row hgd 39 x ho B hx 39 #[p, q] (0, 0) _ hr Tryd.underlying39 rfl sizePath h
theorem loadS_run {o : Oper} {ev : Operand → Value} {w : World} (x : Operand) (ho : o.op = .load 37 x) (B : Nat) (hx : ev x = .pointer (some ⟨B, 0, none⟩)) (p q : Value) (hr : Row w B 37 [p, q]) :
    (execOp ev o).run Tryd.prog w = .ok (.value (.agg #[p, q])) w := by
  unfold execOp
  simp only [ho, hx, Instr.loadAt, Instr.sureAddr, Sem.run_bind, Sem.run_pure, Result.andThen_ok, run_loadVar_row (P := Tryd.prog) w B 37 37 #[p, q] (0, 0) _ hr underState rfl sizeState]
theorem loadP_run {o : Oper} {ev : Operand → Value} {w : World} (x : Operand) (ho : o.op = .load 42 x) (B : Nat) (hx : ev x = .pointer (some ⟨B, 0, none⟩)) (p q : Value) (hr : Row w B 42 [p, q]) :
    (execOp ev o).run Tryd.prog w = .ok (.value (.agg #[p, q])) w := by
  unfold execOp
  simp only [ho, hx, Instr.loadAt, Instr.sureAddr, Sem.run_bind, Sem.run_pure, Result.andThen_ok, run_loadVar_row (P := Tryd.prog) w B 42 42 #[p, q] (0, 0) _ hr underPair rfl sizePair]
theorem loadT_run {o : Oper} {ev : Operand → Value} {w : World} (x : Operand) (ho : o.op = .load 39 x) (B : Nat) (hx : ev x = .pointer (some ⟨B, 0, none⟩)) (p q : Value) (hr : Row w B 39 [p, q]) :
    (execOp ev o).run Tryd.prog w = .ok (.value (.agg #[p, q])) w := by
  unfold execOp
  simp only [ho, hx, Instr.loadAt, Instr.sureAddr, Sem.run_bind, Sem.run_pure, Result.andThen_ok, run_loadVar_row (P := Tryd.prog) w B 39 39 #[p, q] (0, 0) _ hr Tryd.underlying39 rfl sizePath]
theorem storeT (ρ : Operand → Value) (o : Oper) (p v : Operand) (ho : o.op = .store 39 p v) (W : World) (B : Nat) (hp : ρ p = .pointer (some ⟨B, 0, none⟩)) (x y : Int) (hv : ρ v = .agg #[.int .i64 x, .int .i64 y])
    (u0 u1 : Value) (k1 : W.cell? ⟨B, 0, none⟩ = some u0) (k2 : W.cell? ⟨B, 1, none⟩ = some u1) (k3 : ∀ i, W.frozen? ⟨B, i, none⟩ = false) :
    (execOp ρ o).run Tryd.prog W = .ok .skip ((W.setCell ⟨B, 0, none⟩ (.int .i64 x)).setCell ⟨B, 1, none⟩ (.int .i64 y)) := by
  unfold execOp
  simp only [ho]
  go_simp

/-- What is known of the values of the region in which a path grows. -/
def LR (w : World) (v4 v6 v7 : Value) : Nat → Value → World → Prop
  | 4, x, _ => x = v4
  | 6, x, _ => x = v6
  | 7, x, _ => x = v7
  | 8, x, W => ∃ B, x = .pointer (some ⟨B, 0, none⟩) ∧ w.heap.size ≤ B ∧ Row W B 39 [.int .i64 0, .int .i64 0]
  | _, _, _ => True
theorem LR.mono (w : World) (v4 v6 v7 : Value) (i : Nat) (x : Value) (W W' : World) (h : LR w v4 v6 v7 i x W) (e : Ext W W') : LR w v4 v6 v7 i x W' := by
  unfold LR at *
  split at h
  · exact h
  · exact h
  · exact h
  · obtain ⟨B, h1, h2, h3⟩ := h; exact ⟨B, h1, h2, h3.ext e⟩
  · trivial
def lD : Nat → Nat
  | 4 => 37
  | 6 => 39
  | 7 => 40
  | _ => 12
def lP : Nat → List Nat
  | 6 => [4]
  | 7 => [6]
  | _ => []

set_option maxHeartbeats 2000000 in
theorem longer_any (a b : Bool) (m : Mp) (hm : ∀ s0 s1 p, m s0 s1 = some p → p.1 ≤ 500000 ∧ p.2 ≤ 500000) (w : World) (B c : Nat) (hB : PM w B c m) (tb : TB w) :
    Calls Tryd.prog 13 #[.map (some B), pv a b] w fun e w' => ∃ B', e = .returned (.map (some B')) ∧ PM w' B' 8 (lg a b m) ∧ Ext w w' := by
  have hmk : ∀ w : World, Sem.run Tryd.prog (Instr.makeMap 40 none) w = .ok (.map (some w.heap.size)) (w.alloc (.map #[] 0)) := run_makeMap 40
  have TB1 : Hid (TB ((w.alloc (.cells #[.bool a, .bool b] 42)).alloc (.map #[] 0))) := tb.ext (((Ext.refl w).alloc _).alloc _)
  have E1 : Hid (Ext w ((w.alloc (.cells #[.bool a, .bool b] 42)).alloc (.map #[] 0))) := ((Ext.refl w).alloc _).alloc _
  have R1 : Hid (Row ((w.alloc (.cells #[.bool a, .bool b] 42)).alloc (.map #[] 0)) w.heap.size 42 [.bool a, .bool b]) := (row_last w [.bool a, .bool b] 42).ext ((Ext.refl _).alloc _)
  have P1 : Hid (PM ((w.alloc (.cells #[.bool a, .bool b] 42)).alloc (.map #[] 0)) (w.heap.size + 1) 0 (lgk a b m 0)) := by
    have := PM.made (w.alloc (.cells #[.bool a, .bool b] 42))
    rw [World.size_alloc] at this
    exact this
  go_enter Tryd.func13, Tryd.ntmps13
  go_wp2_with (refine wpList_loadTab rfl _ (by rfl) (by rfl) TB1.out ?_)
  clear hmk TB1
  generalize ((w.alloc (.cells #[.bool a, .bool b] 42)).alloc (.map #[] 0)) = W1 at *
  go_loopg [18] 4 (fun gg s18 wr => ∃ k : Nat, k ≤ 4 ∧ 4 - k ≤ gg ∧ s18 = .int .i64 k ∧ Aside (Ext w wr) ∧ Aside (Row wr w.heap.size 42 [.bool a, .bool b]) ∧ Aside (PM wr (w.heap.size + 1) (2 * k) (lgk a b m k)))
  case atStart => exact ⟨0, by omega, by omega, rfl, E1.out, R1.out, P1.out⟩
  case round =>
    clear E1 R1 P1
    obtain ⟨k, hk, hgg, rfl, E, R, PP⟩ := hrel
    by_cases hlt : k < 4
    · have hltz : (k : Int) < 4 := by omega
      have hix := fun W => index_tab k hlt W
      obtain ⟨f0, hf0⟩ : ∃ f0, sf k = f0 := ⟨_, rfl⟩
      obtain ⟨f1, hf1⟩ : ∃ f1, ss k = f1 := ⟨_, rfl⟩
      have LN : Hid (lgk a b m (k + 1) = ex2 a b m f0 f1 (lgk a b m k)) := by show _ = _; rw [← hf0, ← hf1]; rfl
      rw [hf0, hf1] at hix
      clear hf0 hf1
      have E' : Hid (Ext w wr) := E.out
      have R' : Hid (Row wr w.heap.size 42 [.bool a, .bool b]) := R.out
      have P' : Hid (PM wr (w.heap.size + 1) (2 * k) (lgk a b m k)) := PP.out
      clear E R PP
      have B2 : Hid (PM (wr.alloc (.cells #[.bool f0, .bool f1] 37)) B c m) := hB.ext (E'.out.alloc _)
      cases ho : m f0 f1 with
      | none =>
        have hl1 : (m f0 f1).getD (0, 0) = (0, 0) := by rw [ho]; rfl
        have hl2 : (m f0 f1).isSome = false := by rw [ho]; rfl
        have LN' : Hid (lgk a b m (k + 1) = lgk a b m k) := by
          show _ = _
          rw [LN.out]
          unfold ex2
          rw [ho]
        clear ho
        go_wp2_with (refine wpList_lookP rfl _ _ (by rfl) _ m B c (by rfl) B2.out f0 f1 (by rfl) (0, 0) false hl1 hl2 ?_)
        have E2 : Ext wr ((wr.alloc (.cells #[.bool f0, .bool f1] 37)).alloc (.cells #[.int .i64 0, .int .i64 0] 39)) := ((Ext.refl wr).alloc _).alloc _
        have NE : Hid (Ext w ((wr.alloc (.cells #[.bool f0, .bool f1] 37)).alloc (.cells #[.int .i64 0, .int .i64 0] 39))) := E'.out.trans E2
        have NR : Hid (Row ((wr.alloc (.cells #[.bool f0, .bool f1] 37)).alloc (.cells #[.int .i64 0, .int .i64 0] 39)) w.heap.size 42 [.bool a, .bool b]) := R'.out.ext E2
        have NP : Hid (PM ((wr.alloc (.cells #[.bool f0, .bool f1] 37)).alloc (.cells #[.int .i64 0, .int .i64 0] 39)) (w.heap.size + 1) (2 * (k + 1)) (lgk a b m (k + 1))) := by
          show PM _ _ _ _
          rw [LN'.out]
          exact (P'.out.ext E2).mono (by omega)
        clear B2 LN LN' E2 E' R' P'
        go_roundg (4 - (k + 1))
        case measure => omega
        case rel => exact ⟨k + 1, by omega, by omega, by go_num, NE.out, NR.out, NP.out⟩
      | some p =>
        obtain ⟨x, d⟩ := p
        have hl1 : (m f0 f1).getD (0, 0) = (x, d) := by rw [ho]; rfl
        have hl2 : (m f0 f1).isSome = true := by rw [ho]; rfl
        have hxd := hm f0 f1 _ ho
        simp only at hxd
        obtain ⟨hx, hd⟩ := hxd
        have LN' : Hid (lgk a b m (k + 1) = pt1 (pt1 (lgk a b m k) false f0 (wi (x, d) false (ac f0 f1 false a b))) true f0 (wi (x, d) true (ac f0 f1 true a b))) := by
          show _ = _
          rw [LN.out]
          unfold ex2
          rw [ho]
        obtain ⟨MJ, hMJ⟩ : ∃ MJ : Nat → Mp, MJ = fun j => if j = 0 then lgk a b m k else if j = 1 then pt1 (lgk a b m k) false f0 (wi (x, d) false (ac f0 f1 false a b)) else lgk a b m (k + 1) := ⟨_, rfl⟩
        have J0 : Hid (MJ 0 = lgk a b m k) := by show _ = _; rw [hMJ]; rfl
        have J2 : Hid (MJ 2 = lgk a b m (k + 1)) := by show _ = _; rw [hMJ]; rfl
        have JN : Hid (∀ j, j < 2 → MJ (j + 1) = pt1 (MJ j) (decide (j = 1)) f0 (wi (x, d) (decide (j = 1)) (ac f0 f1 (decide (j = 1)) a b))) := fun j hj => by
          rcases (by omega : j = 0 ∨ j = 1) with rfl | rfl
          · rw [hMJ]; rfl
          · rw [hMJ]
            show lgk a b m (k + 1) = _
            rw [LN'.out]; rfl
        clear hMJ LN LN' ho
        go_wp2_with (refine wpList_lookP rfl _ _ (by rfl) _ m B c (by rfl) B2.out f0 f1 (by rfl) (x, d) true hl1 hl2 ?_)
        have hsz : w.heap.size + 1 < wr.heap.size := P'.out.lt
        have L0 : Hid (LI w ((wr.alloc (.cells #[.bool f0, .bool f1] 37)).alloc (.cells #[.int .i64 (x : Int), .int .i64 (d : Int)] 39)) wr.heap.size a b f0 f1 x d (2 * k) (MJ 0)) := by
          have E2 : Ext wr ((wr.alloc (.cells #[.bool f0, .bool f1] 37)).alloc (.cells #[.int .i64 (x : Int), .int .i64 (d : Int)] 39)) := ((Ext.refl wr).alloc _).alloc _
          refine ⟨E'.out.trans E2, R'.out.ext E2, (row_last wr [.bool f0, .bool f1] 37).ext ((Ext.refl _).alloc _), ?_, by rw [J0.out]; exact P'.out.ext E2⟩
          have := row_last (wr.alloc (.cells #[.bool f0, .bool f1] 37)) [.int .i64 (x : Int), .int .i64 (d : Int)] 39
          rw [World.size_alloc] at this
          exact this
        clear B2 hl1 hl2 E' R' P' J0 hix
        generalize ((wr.alloc (.cells #[.bool f0, .bool f1] 37)).alloc (.cells #[.int .i64 (x : Int), .int .i64 (d : Int)] 39)) = V0 at *
        generalize wr.heap.size = C at *
        clear hB tb hm
        have hi2 := fun (j : Nat) (hj : j < 2) W => index_two j hj W
        have HI2 : Hid (∀ (j : Nat) (hj : j < 2) W, Sem.run Tryd.prog (Instr.index 36 (.agg #[.bool false, .bool true]) (.int .i64 (j : Int))) W = .ok (.bool (decide (j = 1))) W) := hi2
        clear hi2
        go_loopg [30] 2 (fun gg s30 wq => ∃ j : Nat, j ≤ 2 ∧ 2 - j ≤ gg ∧ s30 = .int .i64 j ∧ Aside (LI w wq C a b f0 f1 x d (2 * k + j) (MJ j)))
        case atStart => exact ⟨0, by omega, by omega, rfl, L0.out⟩
        case round =>
          clear L0
          obtain ⟨j, hj, hgg2, rfl, L⟩ := hrel
          by_cases hlt2 : j < 2
          · have hltz2 : (j : Int) < 2 := by omega
            have hix := HI2.out j hlt2
            have jn := JN.out j hlt2
            have L' : Hid (LI w wr C a b f0 f1 x d (2 * k + j) (MJ j)) := L.out
            have JN' : Hid (MJ (j + 1) = pt1 (MJ j) (decide (j = 1)) f0 (wi (x, d) (decide (j = 1)) (ac f0 f1 (decide (j = 1)) a b))) := jn
            clear HI2 JN J2 L jn
            generalize decide (j = 1) = q at *
            have c4 : Hid (∀ W, Calls Tryd.prog 19 #[pv f0 f1, .bool q] W fun e w' => e = .returned (pv ((q != f1) != f0) (q != f1)) ∧ Ext W w') := fun W => writes_any f0 f1 q W
            have c6 : Hid (∀ W, Calls Tryd.prog 22 #[pv ((q != f1) != f0) (q != f1), pv a b] W fun e w' => e = .returned (.int .i64 (ac f0 f1 q a b : Nat)) ∧ Ext W w') := fun W => apart_any _ _ a b W
            have c7 : Hid (∀ W, Calls Tryd.prog 21 #[pth (x, d), .bool q, .int .i64 (ac f0 f1 q a b : Nat)] W fun e w' => e = .returned (pth (wi (x, d) q (ac f0 f1 q a b))) ∧ Ext W w') := fun W =>
              with_any x d (ac f0 f1 q a b) q (by omega) (by omega) (by have := ac_le f0 f1 q a b; omega) W
            have cN : Hid (∀ W, Calls Tryd.prog 20 #[pv f0 f1, .bool q] W fun e w' => e = .returned (pv q f0) ∧ Ext W w') := fun W => next_any f0 f1 q W
            generalize pv ((q != f1) != f0) (q != f1) = wv at *
            generalize wi (x, d) q (ac f0 f1 q a b) = l at *
            generalize ac f0 f1 q a b = cc at *
            obtain ⟨l1, l2⟩ := l
            go_wp2_with fail
            refine wp_region_mix (Ext wr) 10 (by rfl) (by kernel_rfl) ?_
            refine wpMix_take (v := .agg #[.int .i64 (x : Int), .int .i64 (d : Int)]) 0 (by rfl) (by kernel_rfl) ⟨by rfl, ?_⟩ ?_
            · rintro W hW
              exact loadT_run _ (by rfl) (C + 1) (by rfl) _ _ (L'.out.t.ext hW)
            refine wpMix_take (v := .bool q) 1 (by rfl) (by kernel_rfl) ⟨by rfl, ?_⟩ ?_
            · rintro W -
              go_simp
            refine wpMix_take (v := .agg #[.bool f0, .bool f1]) 2 (by rfl) (by kernel_rfl) ⟨by rfl, ?_⟩ ?_
            · rintro W hW
              exact loadS_run _ (by rfl) C (by rfl) _ _ (L'.out.s.ext hW)
            refine wpMix_take (v := .bool q) 3 (by rfl) (by kernel_rfl) ⟨by rfl, ?_⟩ ?_
            · rintro W -
              go_simp
            refine wpMix_take (v := .agg #[.bool a, .bool b]) 5 (by rfl) (by kernel_rfl) ⟨by rfl, ?_⟩ ?_
            · rintro W hW
              exact loadP_run _ (by rfl) w.heap.size (by rfl) _ _ (L'.out.r.ext hW)
            have ED : Hid (Ext wr wr.drew) := ext_drew wr
            generalize wr.drew = w2 at *
            simp only [Act.put, List.setIfInBounds_toArray, List.set_cons_zero, List.set_cons_succ]
            refine wpMix_louds wr lD (LR wr wv (.int .i64 (cc : Nat)) (pth (l1, l2))) lP (fun _ => false) [4, 6, 7, 8] #[true, true, true, true, true, true, true, true, true, false] 1 4 (by rfl) (by kernel_rfl) ED.out (LR.mono _ _ _ _) ?_ ?_
            · intro i hi
              simp only [List.mem_cons, List.not_mem_nil, or_false] at hi
              rcases hi with rfl | rfl | rfl | rfl
              · refine Lo.call 19 (by rfl) (by rfl) (by rfl) (fun _ => by rfl) (fun u W hW _ => ⟨#[pv f0 f1, .bool q], (by simp only [puts, lD, Act.put, List.setIfInBounds_toArray, List.set_cons_zero, List.set_cons_succ]; go_simp), ?_⟩)
                refine (c4.out W).mono ?_
                rintro e w' ⟨rfl, E⟩
                exact ⟨_, rfl, rfl, E⟩
              · refine Lo.call 22 (by rfl) (by rfl) (by rfl) (fun _ => by rfl) (fun u W hW hd => ?_)
                have h4 : u 4 = wv := hd 4 (by simp [lP])
                refine ⟨#[wv, pv a b], (by simp only [puts, lD, h4, Act.put, List.setIfInBounds_toArray, List.set_cons_zero, List.set_cons_succ]; go_simp), ?_⟩
                refine (c6.out W).mono ?_
                rintro e w' ⟨rfl, E⟩
                exact ⟨_, rfl, rfl, E⟩
              · refine Lo.call 21 (by rfl) (by rfl) (by rfl) (fun _ => by rfl) (fun u W hW hd => ?_)
                have h6 : u 6 = .int .i64 (cc : Nat) := hd 6 (by simp [lP])
                refine ⟨#[pth (x, d), .bool q, .int .i64 (cc : Nat)], (by simp only [puts, lD, h6, Act.put, List.setIfInBounds_toArray, List.set_cons_zero, List.set_cons_succ]; go_simp), ?_⟩
                refine (c7.out W).mono ?_
                rintro e w' ⟨rfl, E⟩
                exact ⟨_, rfl, rfl, E⟩
              · refine Lo.value (by rfl) (by rfl) (fun _ => by rfl) (fun u W hW _ => ⟨.pointer (some ⟨W.heap.size, 0, none⟩), W.alloc (.cells #[.int .i64 0, .int .i64 0] 39), (by simp only [puts, lD, Act.put, List.setIfInBounds_toArray, List.set_cons_zero, List.set_cons_succ]; go_simp), ?_, (Ext.refl W).alloc _, fun h => by cases h⟩)
                exact ⟨_, rfl, hW.size, row_last W [.int .i64 0, .int .i64 0] 39⟩
            intro vv W3 hE3 hR hdis
            have h4 : vv 4 = wv := hR 4 (by simp)
            have h6 : vv 6 = .int .i64 (cc : Nat) := hR 6 (by simp)
            have h7 : vv 7 = pth (l1, l2) := hR 7 (by simp)
            obtain ⟨B8, h8, h8s, h8r⟩ := hR 8 (by simp)
            simp only [puts, lD, h4, h6, h7, h8, Act.put, List.setIfInBounds_toArray, List.set_cons_zero, List.set_cons_succ]
            clear hdis hR h4 h6 h7 h8 vv c4 c6 c7 ED
            have R8 : Hid (Row ((W3.setCell ⟨B8, 0, none⟩ (.int .i64 (l1 : Int))).setCell ⟨B8, 1, none⟩ (.int .i64 (l2 : Int))) B8 39 [.int .i64 (l1 : Int), .int .i64 (l2 : Int)]) := (h8r.set 0 (.int .i64 (l1 : Int))).set 1 (.int .i64 (l2 : Int))
            have E8 : Hid (Ext wr ((W3.setCell ⟨B8, 0, none⟩ (.int .i64 (l1 : Int))).setCell ⟨B8, 1, none⟩ (.int .i64 (l2 : Int)))) := (hE3.setCell h8s _).setCell h8s _
            refine wpMix_last 9 (by kernel_rfl) (by kernel_rfl) (by rfl) (by rfl) hE3 (storeT _ _ (.tmp 12) (.tmp 40) (by rfl) W3 B8 (by rfl) (l1 : Int) (l2 : Int) (by rfl) _ _ (h8r.cell 0 (by simp)) (h8r.cell 1 (by simp)) h8r.fr) E8.out ?_
            generalize ((W3.setCell ⟨B8, 0, none⟩ (.int .i64 (l1 : Int))).setCell ⟨B8, 1, none⟩ (.int .i64 (l2 : Int))) = W4 at R8 E8 ⊢
            clear h8r h8s hE3
            have L4 : Hid (LI w W4 C a b f0 f1 x d (2 * k + j) (MJ j)) := L'.out.ext E8.out
            clear L' E8
            simp only [Act.put]
            go_wp2_with (refine wpList_loadS rfl _ (by rfl) C (by rfl) f0 f1 L4.out.s ?_)
            refine (cN.out W4).mono ?_
            rintro e w5 ⟨rfl, E5⟩
            have E6 : Ext W4 (w5.alloc (.cells #[.bool q, .bool f0] 37)) := E5.alloc _
            have L6 : Hid (LI w (w5.alloc (.cells #[.bool q, .bool f0] 37)) C a b f0 f1 x d (2 * k + j) (MJ j)) := L4.out.ext E6
            have R6 : Hid (Row (w5.alloc (.cells #[.bool q, .bool f0] 37)) B8 39 [.int .i64 (l1 : Int), .int .i64 (l2 : Int)]) := R8.out.ext E6
            clear cN L4 R8 E5 E6
            cases ho : MJ j q f0 with
            | none =>
              have hl1 : (MJ j q f0).getD (0, 0) = (0, 0) := by rw [ho]; rfl
              have hl2 : (MJ j q f0).isSome = false := by rw [ho]; rfl
              have JF : Hid (MJ (j + 1) = fun s t => if s = q ∧ t = f0 then some (l1, l2) else MJ j s t) := by
                show _ = _
                rw [JN'.out, pt1_none ho]
              clear ho JN'
              have L7 : Hid (LI w ((w5.alloc (.cells #[.bool q, .bool f0] 37)).alloc (.cells #[.int .i64 0, .int .i64 0] 39)) C a b f0 f1 x d (2 * k + j) (MJ j)) := L6.out.ext ((Ext.refl _).alloc _)
              have R7 : Row ((w5.alloc (.cells #[.bool q, .bool f0] 37)).alloc (.cells #[.int .i64 0, .int .i64 0] 39)) B8 39 [.int .i64 (l1 : Int), .int .i64 (l2 : Int)] := R6.out.ext ((Ext.refl _).alloc _)
              have k0 := R7.cell 0 (by simp)
              have k1 := R7.cell 1 (by simp)
              simp only [List.getElem_cons_zero, List.getElem_cons_succ] at k0 k1
              go_wp2_with (first | (refine wpList_lookP rfl _ _ (by rfl) _ (MJ j) (w.heap.size + 1) (2 * k + j) (by rfl) L6.out.p q f0 (by rfl) (0, 0) false hl1 hl2 ?_) | (refine wpList_putP rfl _ _ _ (Or.inl (by rfl)) w _ (MJ j) (w.heap.size + 1) (2 * k + j) (by rfl) L7.out.p (by omega) q f0 (by rfl) (l1, l2) (by rfl) L7.out.e (Nat.le_succ _) ?_; intro w8 P8 G8 E8; rw [← JF.out] at P8; have L8 : Hid (LI w w8 C a b f0 f1 x d (2 * k + (j + 1)) (MJ (j + 1))) := L7.out.put hsz P8 G8 E8; clear P8 G8 E8 L7 R7 k0 k1 L6 R6))
              go_roundg (2 - (j + 1))
              case measure => omega
              case rel => exact ⟨j + 1, by omega, by omega, by go_num, L8.out⟩
            | some o =>
              obtain ⟨o1, o2⟩ := o
              have hl1 : (MJ j q f0).getD (0, 0) = (o1, o2) := by rw [ho]; rfl
              have hl2 : (MJ j q f0).isSome = true := by rw [ho]; rfl
              have cB : Hid (∀ W, Calls Tryd.prog 23 #[pth (l1, l2), pth (o1, o2)] W fun e w' => e = .returned (.bool (bt (l1, l2) (o1, o2))) ∧ Ext W w') := fun W => better_any _ _ W
              have L7 : Hid (LI w ((w5.alloc (.cells #[.bool q, .bool f0] 37)).alloc (.cells #[.int .i64 (o1 : Int), .int .i64 (o2 : Int)] 39)) C a b f0 f1 x d (2 * k + j) (MJ j)) := L6.out.ext ((Ext.refl _).alloc _)
              have R7 : Row ((w5.alloc (.cells #[.bool q, .bool f0] 37)).alloc (.cells #[.int .i64 (o1 : Int), .int .i64 (o2 : Int)] 39)) B8 39 [.int .i64 (l1 : Int), .int .i64 (l2 : Int)] := R6.out.ext ((Ext.refl _).alloc _)
              have S7 : Row ((w5.alloc (.cells #[.bool q, .bool f0] 37)).alloc (.cells #[.int .i64 (o1 : Int), .int .i64 (o2 : Int)] 39)) w5.heap.size 37 [.bool q, .bool f0] := (row_last w5 [.bool q, .bool f0] 37).ext ((Ext.refl _).alloc _)
              have k0 := R7.cell 0 (by simp)
              have k1 := R7.cell 1 (by simp)
              simp only [List.getElem_cons_zero, List.getElem_cons_succ] at k0 k1
              have JB : Hid (bt (l1, l2) (o1, o2) = true → MJ (j + 1) = fun s t => if s = q ∧ t = f0 then some (l1, l2) else MJ j s t) := fun h => by rw [JN'.out, pt1_better ho h]
              have JS : Hid (bt (l1, l2) (o1, o2) = false → MJ (j + 1) = MJ j) := fun h => by rw [JN'.out, pt1_stay ho h]
              clear ho JN'
              go_wp2_with (refine wpList_lookP rfl _ _ (by rfl) _ (MJ j) (w.heap.size + 1) (2 * k + j) (by rfl) L6.out.p q f0 (by rfl) (o1, o2) true hl1 hl2 ?_)
              refine (cB.out _).mono ?_
              rintro e w7 ⟨rfl, E7⟩
              have L7' : Hid (LI w w7 C a b f0 f1 x d (2 * k + j) (MJ j)) := L7.out.ext E7
              have R7' : Row w7 B8 39 [.int .i64 (l1 : Int), .int .i64 (l2 : Int)] := R7.ext E7
              have S7' : Row w7 w5.heap.size 37 [.bool q, .bool f0] := S7.ext E7
              clear L7 R7 S7 k0 k1 L6 R6 cB E7
              have k0 := R7'.cell 0 (by simp)
              have k1 := R7'.cell 1 (by simp)
              have k2 := S7'.cell 0 (by simp)
              have k3 := S7'.cell 1 (by simp)
              simp only [List.getElem_cons_zero, List.getElem_cons_succ] at k0 k1 k2 k3
              cases hbt : bt (l1, l2) (o1, o2)
              · have L8 : Hid (LI w w7 C a b f0 f1 x d (2 * k + (j + 1)) (MJ (j + 1))) := by
                  show LI _ _ _ _ _ _ _ _ _ _ _
                  rw [JS.out hbt]
                  exact ⟨L7'.out.e, L7'.out.r, L7'.out.s, L7'.out.t, L7'.out.p.mono (by omega)⟩
                clear JB JS L7' R7' S7' hbt
                go_wp2
                go_roundg (2 - (j + 1))
                case measure => omega
                case rel => exact ⟨j + 1, by omega, by omega, by go_num, L8.out⟩
              · have JF : Hid (MJ (j + 1) = fun s t => if s = q ∧ t = f0 then some (l1, l2) else MJ j s t) := JB.out hbt
                clear JB JS hbt
                go_wp2_with (refine wpList_putP rfl _ _ _ (Or.inl (by rfl)) w _ (MJ j) (w.heap.size + 1) (2 * k + j) (by rfl) L7'.out.p (by omega) q f0 (by rfl) (l1, l2) (by rfl) L7'.out.e (Nat.le_succ _) ?_; intro w8 P8 G8 E8; rw [← JF.out] at P8; have L8 : Hid (LI w w8 C a b f0 f1 x d (2 * k + (j + 1)) (MJ (j + 1))) := L7'.out.put hsz P8 G8 E8; clear P8 G8 E8 L7' R7' S7' k0 k1 k2 k3)
                go_roundg (2 - (j + 1))
                case measure => omega
                case rel => exact ⟨j + 1, by omega, by omega, by go_num, L8.out⟩
          · obtain rfl : j = 2 := by omega
            have hltz2 : ¬ (2 : Int) < 2 := by omega
            have L' : Hid (LI w wr C a b f0 f1 x d (2 * k + 2) (lgk a b m (k + 1))) := by
              show LI _ _ _ _ _ _ _ _ _ _ _
              rw [← J2.out]
              exact L.out
            clear HI2 JN J2 L
            go_wp2
            go_roundg (4 - (k + 1))
            case measure => omega
            case rel => exact ⟨k + 1, by omega, by omega, by go_num, L'.out.e, L'.out.r, L'.out.p⟩
    · obtain rfl : k = 4 := by omega
      have hltz : ¬ (4 : Int) < 4 := by omega
      have E' : Hid (Ext w wr) := E.out
      have P' : Hid (PM wr (w.heap.size + 1) 8 (lg a b m)) := PP.out
      clear E R PP
      go_wp2
      go_ret
      exact ⟨_, rfl, P'.out, E'.out⟩

end Go.Proofs.YtnkhlohoaoiefaaDoor
