/-
  For any parts, any number and any count: state.Read tells the symbols of which it may have come: StateReads returns true for every list of parts, every number and every count, and changes nothing.
-/
import Derived.Test.YtchnlbanhkigjaaOpen
import Derived.Test.YtchnlbanhkigjaaNum
import Derived.Test.YtchnlbanhkigjaaRf
import Derived.Test.YtchnlbanhkigjaaRd
namespace Go.Proofs.Ytchnlbanhkigjaa
open Go.ChangeShapes Go.WideShapes Go.ChangeAt Go.RowKit Go.Deep
set_option linter.unusedVariables false

theorem stateReads_parts (a : Option Addr) (n c : Nat) (x m F : Int) (w : World) (hF : F ≠ 0)
    (c1 : Calls Try.prog 15 #[.slice a n c, .int .i64 x, .int .i64 m] w fun e w' => e = .returned (.tuple #[.slice none 0 0, .int .i64 F]) ∧ w' = w)
    (c2 : Calls Try.prog 10 #[.slice a n c, .int .i64 x] w fun e w' => e = .returned (.int .i64 F) ∧ w' = w) :
    Calls Try.prog 6 #[.slice a n c, .int .i64 x, .int .i64 m] w fun e w' => e = .returned (.bool true) ∧ Ext w w' := by
  have hE : (F == 0) = false := by rw [beq_eq_false_iff_ne]; exact hF
  have hE2 : (F != 0) = true := by rw [bne_iff_ne]; exact hF
  clear hF
  go_enter Try.func6, Try.ntmps6
  go_wp2_with fail
  refine c1.mono ?_
  rintro e w1 ⟨rfl, rfl⟩
  clear c1
  go_wp2_with fail
  refine c2.mono ?_
  rintro e w2 ⟨rfl, rfl⟩
  clear c2
  go_wp2
  go_loopg [1, 10, 11] 0 (fun gg s1 s10 s11 wr => s1 = .int .i64 x ∧ s10 = .slice none 0 0 ∧ s11 = .int .i64 0 ∧ wr = w2)
  case atStart => exact ⟨rfl, rfl, rfl, rfl⟩
  case round =>
    obtain ⟨rfl, rfl, rfl, rfl⟩ := hrel
    by_cases h0 : 0 < m
    · go_wp2
      go_ret
      exact ⟨ret_bool (by simp), Ext.refl _⟩
    · go_wp2
      go_ret
      exact ⟨ret_bool (by simp), Ext.refl _⟩

theorem stateReads_large (a : Option Addr) (n c : Nat) (x m : Int) (w : World) (hm : 64 < m)
    (c1 : Calls Try.prog 15 #[.slice a n c, .int .i64 x, .int .i64 m] w fun e w' => e = .returned (.tuple #[.slice none 0 0, .int .i64 1]) ∧ w' = w)
    (c2 : Calls Try.prog 10 #[.slice a n c, .int .i64 x] w fun e w' => e = .returned (.int .i64 0) ∧ w' = w) :
    Calls Try.prog 6 #[.slice a n c, .int .i64 x, .int .i64 m] w fun e w' => e = .returned (.bool true) ∧ Ext w w' := by
  go_enter Try.func6, Try.ntmps6
  go_wp2_with fail
  refine c1.mono ?_
  rintro e w1 ⟨rfl, rfl⟩
  clear c1
  go_wp2_with fail
  refine c2.mono ?_
  rintro e w2 ⟨rfl, rfl⟩
  clear c2
  go_wp2
  go_loopg [1, 10, 11] 0 (fun gg s1 s10 s11 wr => s1 = .int .i64 x ∧ s10 = .slice none 0 0 ∧ s11 = .int .i64 0 ∧ wr = w2)
  case atStart => exact ⟨rfl, rfl, rfl, rfl⟩
  case round =>
    obtain ⟨rfl, rfl, rfl, rfl⟩ := hrel
    by_cases h0 : 0 < m
    · go_wp2
      go_ret
      exact ⟨ret_bool (by simp), Ext.refl _⟩
    · go_wp2
      go_ret
      exact ⟨ret_bool (by simp), Ext.refl _⟩

theorem stateReads_low (a : Option Addr) (n c : Nat) (x m : Int) (w : World) (hm : m < 0)
    (c1 : Calls Try.prog 15 #[.slice a n c, .int .i64 x, .int .i64 m] w fun e w' => e = .returned (.tuple #[.slice none 0 0, .int .i64 4]) ∧ w' = w)
    (c2 : Calls Try.prog 10 #[.slice a n c, .int .i64 x] w fun e w' => e = .returned (.int .i64 0) ∧ w' = w) :
    Calls Try.prog 6 #[.slice a n c, .int .i64 x, .int .i64 m] w fun e w' => e = .returned (.bool true) ∧ Ext w w' := by
  have h2 : ¬ 64 < m := by omega
  go_enter Try.func6, Try.ntmps6
  go_wp2_with fail
  refine c1.mono ?_
  rintro e w1 ⟨rfl, rfl⟩
  clear c1
  go_wp2_with fail
  refine c2.mono ?_
  rintro e w2 ⟨rfl, rfl⟩
  clear c2
  go_wp2
  go_loopg [1, 10, 11] 0 (fun gg s1 s10 s11 wr => s1 = .int .i64 x ∧ s10 = .slice none 0 0 ∧ s11 = .int .i64 0 ∧ wr = w2)
  case atStart => exact ⟨rfl, rfl, rfl, rfl⟩
  case round =>
    obtain ⟨rfl, rfl, rfl, rfl⟩ := hrel
    by_cases h0 : 0 < m
    · go_wp2
      go_ret
      exact ⟨ret_bool (by simp), Ext.refl _⟩
    · go_wp2
      go_ret
      exact ⟨ret_bool (by simp), Ext.refl _⟩

set_option maxHeartbeats 1000000 in
theorem stateReads_good (b o n c : Nat) (p : List Nat) (x m : Nat) (w : World) (hn : p.length = n) (h8 : n ≤ 8) (h1 : 1 ≤ p.sum) (h16 : p.sum ≤ 16) (h : Pa w b o p) (hx : x ≤ 1099511627776) (hm : m ≤ 64)
    (c1 : Calls Try.prog 15 #[.slice (some ⟨b, o, none⟩) n c, .int .i64 x, .int .i64 m] w fun e w' =>
      (e = .returned (.tuple #[.slice (some ⟨w.heap.size, 0, none⟩) m m, .int .i64 0]) ∧ st p x m = 0 ∧ Row w' w.heap.size 3 (iv (rl p x m)) ∧ Ext w w') ∨ (e = .returned (.tuple #[.slice none 0 0, .int .i64 3]) ∧ st p x m ≠ 0 ∧ Ext w w'))
    (c2 : Hid (∀ W, Ext w W → Calls Try.prog 10 #[.slice (some ⟨b, o, none⟩) n c, .int .i64 x] W fun e w' => e = .returned (.int .i64 0) ∧ w' = W)) :
    Calls Try.prog 6 #[.slice (some ⟨b, o, none⟩) n c, .int .i64 x, .int .i64 m] w fun e w' => e = .returned (.bool true) ∧ Ext w w' := by
  have TAKE : Hid (∀ k W, Ext w W → Calls Try.prog 13 #[.slice (some ⟨b, o, none⟩) n c, .int .i64 (st p x k : Nat)] W fun e w' => e = .returned (.tuple #[.int .i64 (st p x (k + 1) : Nat), .int .i64 (ts p (st p x k) : Nat)]) ∧ Ext W w') := fun k W e => rtake_any b o n c p (st p x k) W hn h8 h1 h16 (Nat.le_trans (st_le (by omega) k) hx) (h.ext e)
  have FEW : Hid (∀ k, st p x k ≤ 1099511627776) := fun k => Nat.le_trans (st_le (by omega) k) hx
  have S0 : Hid (st p x 0 = x) := rfl
  have SUC : Hid (∀ k, rl p x (k + 1) = rl p x k ++ [(ts p (st p x k) : Int)]) := rl_succ p x
  have LEN : Hid (∀ k, (rl p x k).length = k) := rl_length p x
  have c3 : Hid (∀ (W W' : World) (v : Value), Row W w.heap.size 3 (iv (rl p x m)) → OwnN W W' v (rl p x m) → Calls Try.prog 16 #[.slice (some ⟨w.heap.size, 0, none⟩) m m, v] W' fun e w' => e = .returned (.bool true) ∧ Qt W' w') := fun W W' v hr hO => by
    obtain ⟨y, rfl, hy, ny⟩ := hO.nums
    have hx := Row.nums (hr.ext hO.1) (by rw [rl_length]; unfold maxLen; omega)
    have := ints_any _ y W' hx ny
    rw [hy, beq_self_eq_true] at this
    rw [show (Nm.mk (some ⟨w.heap.size, 0, none⟩) (rl p x m).length (rl p x m)).v = .slice (some ⟨w.heap.size, 0, none⟩) m m by rw [Nm.v, rl_length]] at this
    exact this
  clear h hn h1 h16
  go_enter Try.func6, Try.ntmps6
  go_wp2_with fail
  refine c1.mono ?_
  rintro e w1 (⟨rfl, z0, hr, he⟩ | ⟨rfl, z0, he⟩)
  · have Z0 : Hid (st p x m = 0) := z0
    have HR : Hid (Row w1 w.heap.size 3 (iv (rl p x m))) := hr
    have E1 : Hid (Ext w w1) := he
    clear c1 z0 hr he
    go_wp2_with fail
    refine (c2.out w1 E1.out).mono ?_
    rintro e w2 ⟨rfl, rfl⟩
    clear c2
    go_wp2
    go_loopg [1, 10, 11] m (fun gg s1 s10 s11 wr => ∃ k : Nat, k ≤ m ∧ m - k ≤ gg ∧ s1 = .int .i64 (st p x k : Nat) ∧ s11 = .int .i64 k ∧ Aside (OwnN w2 wr s10 (rl p x k)))
    case atStart => exact ⟨0, Nat.zero_le _, by omega, by rw [S0.out], rfl, OwnN.nil (Ext.refl w2)⟩
    case round =>
      obtain ⟨k, hk, hgg, rfl, rfl, A⟩ := hrel
      have fk := FEW.out k
      by_cases hlt : k < m
      · have hltz : (k : Int) < (m : Int) := by omega
        have c4 := TAKE.out k wr (E1.out.trans A.out.1)
        have fk2 := FEW.out (k + 1)
        have suc : Hid (rl p x (k + 1) = rl p x k ++ [(ts p (st p x k) : Int)]) := SUC.out k
        have len : Hid ((rl p x k).length = k) := LEN.out k
        clear TAKE FEW S0 SUC LEN c3 HR Z0
        obtain ⟨y2, hy2⟩ : ∃ y2, st p x (k + 1) = y2 := ⟨_, rfl⟩
        rw [hy2] at c4 fk2
        have HY : Hid (st p x (k + 1) = y2) := hy2
        clear hy2
        generalize ts p (st p x k) = sy at *
        generalize st p x k = y at *
        go_wp2_with fail
        refine c4.mono ?_
        rintro e w3 ⟨rfl, hq⟩
        have NO : Hid (OwnN w2 w3 u10 (rl p x k)) := A.out.ext hq
        have hfl : Hid (((rl p x k).length + 1) * 8 ≤ 140737488355328) := by show _ ≤ _; rw [len.out]; omega
        clear c4 hq A
        go_wp2_with (at_builtin; refine wpList_appendNum rfl _ _ rfl w2 _ u10 (by rfl) _ NO.out (sy : Int) (by rfl) hfl.out ?_; intro v' w4 O2; have O2' : Hid (OwnN w2 w4 v' (rl p x (k + 1))) := by (rw [suc.out]; exact O2))
        go_roundg (m - (k + 1))
        case measure => omega
        case rel => exact ⟨k + 1, by omega, by omega, by rw [HY.out], by go_num, O2'.out⟩
      · obtain rfl : k = m := by omega
        have c5 := c3.out w2 wr u10 HR.out A.out
        have E3 : Hid (Ext w wr) := E1.out.trans A.out.1
        obtain ⟨a3, cc3, hv3⟩ := A.out.form
        rw [Z0.out] at fk ⊢
        clear TAKE FEW S0 SUC LEN c3 HR Z0 A
        subst hv3
        generalize (rl p x k).length = n3 at *
        go_wp2_with fail
        refine c5.mono ?_
        rintro e w4 ⟨rfl, hq⟩
        have E4 : Hid (Ext w w4) := E3.out.trans hq.ext
        clear c5 hq
        go_wp2
        go_ret
        exact ⟨ret_bool (by simp), E4.out⟩
  · have Z0 : Hid (st p x m ≠ 0) := z0
    have E1 : Hid (Ext w w1) := he
    clear c1 z0 he c3
    go_wp2_with fail
    refine (c2.out w1 E1.out).mono ?_
    rintro e w2 ⟨rfl, rfl⟩
    clear c2
    go_wp2
    go_loopg [1, 10, 11] m (fun gg s1 s10 s11 wr => ∃ k : Nat, k ≤ m ∧ m - k ≤ gg ∧ s1 = .int .i64 (st p x k : Nat) ∧ s11 = .int .i64 k ∧ Aside (OwnN w2 wr s10 (rl p x k)))
    case atStart => exact ⟨0, Nat.zero_le _, by omega, by rw [S0.out], rfl, OwnN.nil (Ext.refl w2)⟩
    case round =>
      obtain ⟨k, hk, hgg, rfl, rfl, A⟩ := hrel
      have fk := FEW.out k
      by_cases hlt : k < m
      · have hltz : (k : Int) < (m : Int) := by omega
        have c4 := TAKE.out k wr (E1.out.trans A.out.1)
        have fk2 := FEW.out (k + 1)
        have suc : Hid (rl p x (k + 1) = rl p x k ++ [(ts p (st p x k) : Int)]) := SUC.out k
        have len : Hid ((rl p x k).length = k) := LEN.out k
        clear TAKE FEW S0 SUC LEN Z0
        obtain ⟨y2, hy2⟩ : ∃ y2, st p x (k + 1) = y2 := ⟨_, rfl⟩
        rw [hy2] at c4 fk2
        have HY : Hid (st p x (k + 1) = y2) := hy2
        clear hy2
        generalize ts p (st p x k) = sy at *
        generalize st p x k = y at *
        go_wp2_with fail
        refine c4.mono ?_
        rintro e w3 ⟨rfl, hq⟩
        have NO : Hid (OwnN w2 w3 u10 (rl p x k)) := A.out.ext hq
        have hfl : Hid (((rl p x k).length + 1) * 8 ≤ 140737488355328) := by show _ ≤ _; rw [len.out]; omega
        clear c4 hq A
        go_wp2_with (at_builtin; refine wpList_appendNum rfl _ _ rfl w2 _ u10 (by rfl) _ NO.out (sy : Int) (by rfl) hfl.out ?_; intro v' w4 O2; have O2' : Hid (OwnN w2 w4 v' (rl p x (k + 1))) := by (rw [suc.out]; exact O2))
        go_roundg (m - (k + 1))
        case measure => omega
        case rel => exact ⟨k + 1, by omega, by omega, by rw [HY.out], by go_num, O2'.out⟩
      · obtain rfl : k = m := by omega
        have E3 : Hid (Ext w wr) := E1.out.trans A.out.1
        have hb : ((st p x k : Int) != 0) = true := by have := Z0.out; rw [bne_iff_ne]; omega
        clear TAKE FEW S0 SUC LEN Z0 A
        generalize st p x k = y at *
        go_wp2
        go_ret
        exact ⟨ret_bool (by simp), E3.out⟩

theorem stateReads_walk (p : Nm) (x m : Int) (w : World) (hp : Nums w p) : Calls Try.prog 6 #[p.v, .int .i64 x, .int .i64 m] w fun e w' => e = .returned (.bool true) ∧ Ext w w' := by
  have k1 := checkBoth_any p x w hp
  have c2 := parts_any p x w hp
  by_cases h : pxe p.z x = 0
  · obtain ⟨hh1, hh2, hh3⟩ := pxe_ok h
    obtain ⟨b, o, g⟩ := good_parts hp hh1
    rw [pxv_good h, h, g.sum] at k1
    rw [h] at c2
    by_cases h1 : 64 < m
    · exact stateReads_large p.a p.z.length p.c x m w h1 (sread_large p.a p.z.length p.c x m _ w h1 k1) c2
    · by_cases h2 : m < 0
      · exact stateReads_low p.a p.z.length p.c x m w h2 (sread_low p.a p.z.length p.c x m _ w h2 k1) c2
      · obtain ⟨y, rfl⟩ : ∃ y : Nat, x = y := ⟨x.toNat, by omega⟩
        obtain ⟨k, rfl⟩ : ∃ k : Nat, m = k := ⟨m.toNat, by omega⟩
        have c3 : Hid (∀ W, Ext w W → Calls Try.prog 10 #[p.v, .int .i64 y] W fun e w' => e = .returned (.int .i64 0) ∧ w' = W) := fun W e => by
          have := parts_any p y W (hp.ext e)
          rw [h] at this
          exact this
        rw [g.v] at k1 c3 ⊢
        exact stateReads_good b o _ p.c (nt p.z) y k w rfl g.few g.one g.most g.pa (by omega) (by omega) (sread_good b o _ p.c (nt p.z) y k w rfl g.few g.one g.most g.pa (by omega) (by omega) k1) c3
  · rw [pxv_bad h] at k1
    exact stateReads_parts p.a p.z.length p.c x m _ w h (sread_parts p.a p.z.length p.c x m _ w (by rw [bne_iff_ne]; exact h) k1) c2

set_option maxRecDepth 100000 in
theorem stateReads_lifted (os : Os) (started : os.Started) (H : Type) (enc : TypeId × Value → H) :
    ReturnsInHanded {} Try.checked os 6 .any (Rows.stateReadsSpec.pre6 enc Try.prog Try.f6 Rows.stateReadsRow.domain false) (Rows.stateReadsSpec.post enc Try.prog Try.f6 false true false false) := by
  refine returnsInHanded_of_change (C := Try.checked) own started (by kernel_rfl) Try.func6
    (ChangeSpec.witness6 (enc := enc) (C := Try.checked) false ⟨#[], #[.slice none 0 0, .int .i64 0, .int .i64 0], []⟩ 8 (by kernel_rfl) (by kernel_rfl) (by kernel_rfl) (by kernel_rfl)) ?_
  intro W base args ds gs before hval0 hW _ _
  have hval : ∀ (j : Nat) t v, Try.f6.params[j]? = some t → args[j]? = some v → Value.okWide Try.prog W .any base t v := hval0
  have hW' := hW
  obtain ⟨p, q, hA0, hV, rfl, hfz, hnd⟩ := hW
  have hA : DataW.TrodAll enc Try.prog W 0 (fun _ => true) true Try.f6.params.toList args.toList ds p := hA0
  rw [Try.params6] at hA hval
  obtain ⟨v0, vs0, d0, ds0, p0, q0, hargs, rfl, rfl, h0, r0⟩ := trodAll_cons hA
  obtain ⟨v1, vs1, d1, ds1, p1, q1, rfl, rfl, rfl, h1, r1⟩ := trodAll_cons r0
  obtain ⟨v2, vs2, d2, ds2, p2, q2, rfl, rfl, rfl, h2, r2⟩ := trodAll_cons r1
  obtain ⟨rfl, rfl, rfl⟩ := trodAll_nil r2
  obtain rfl : args = #[v0, v1, v2] := by cases args; simp_all
  obtain ⟨rfl, rfl⟩ := trodVars_none hV
  have lt0 : ∀ x ∈ p0, x.block < W.heap.size := by obtain ⟨m, hm⟩ := h0; exact DataW.trod_lt m _ _ _ hm
  obtain ⟨x0, rfl, w0⟩ := open_syms (hval 0 22 v0 rfl rfl) h0
  have lt1 : ∀ x ∈ p1, x.block < W.heap.size := by obtain ⟨m, hm⟩ := h1; exact DataW.trod_lt m _ _ _ hm
  obtain ⟨x1, rfl, -, -, wf1⟩ := open_int Try.underlying2 (hval 1 2 v1 rfl rfl) h1
  have lt2 : ∀ x ∈ p2, x.block < W.heap.size := by obtain ⟨m, hm⟩ := h2; exact DataW.trod_lt m _ _ _ hm
  obtain ⟨x2, rfl, -, -, wf2⟩ := open_int Try.underlying3 (hval 2 3 v2 rfl rfl) h2
  clear hA0 hval0
  refine (stateReads_walk x0 x1 x2 W w0).mono fun e W' ⟨he, bel⟩ => ?_
  subst he
  exact ⟨_, rfl, _, _, _, [], _, [], hW', trodAll_mk1 (shut_bool Try.underlying4 _), (trodAll_cons_mk (Below.trod laidOut (by kernel_rfl) (of_decide_eq_true (by kernel_rfl)) h0 bel lt0) (trodAll_cons_mk (Below.trod laidOut (by kernel_rfl) (of_decide_eq_true (by kernel_rfl)) h1 bel lt1) (trodAll_cons_mk (Below.trod laidOut (by kernel_rfl) (of_decide_eq_true (by kernel_rfl)) h2 bel lt2) trodAll_mk0))), rfl, bel.frame _, fun h => by cases h⟩

theorem stateReads_holds : Rows.StateReadsSaid :=
  OpenClaim.holds_of_wide 6 Try.f6 rfl rfl rfl rfl rfl rfl rfl ⟨rfl, rfl, rfl, rfl, rfl⟩ rfl rfl rfl rfl rfl (by kernel_rfl) Try.func6 (by kernel_rfl)
    (of_decide_eq_true (by kernel_rfl)) (by unfold Func.isWrapper; rw [if_neg (of_decide_eq_false (by kernel_rfl))]; exact ⟨rfl, rfl⟩)
    (fun os started H enc _ => stateReads_lifted os started H enc)

#print axioms stateReads_holds

end Go.Proofs.Ytchnlbanhkigjaa
