/-
  For any parts, any number and any symbol: what was put is taken, and what was taken is put: StateBack returns true for every list of parts, every number and every symbol, and changes nothing.
-/
import Derived.Test.YtchnlbanhkigjaaOpen
import Derived.Test.YtchnlbanhkigjaaFc
namespace Go.Proofs.Ytchnlbanhkigjaa
open Go.ChangeShapes Go.WideShapes Go.ChangeAt Go.RowKit Go.Deep
set_option linter.unusedVariables false

theorem stateBack_bad (p : Nm) (x s : Int) (w : World) (hp : Nums w p) (h : pxe p.z x ≠ 0) : Calls Try.prog 7 #[p.v, .int .i64 x, .int .i64 s] w fun e w' => e = .returned (.bool true) ∧ Ext w w' := by
  have c1 := sput_any p x s w hp
  rw [pte_bad h, ptv_bad h] at c1
  have c2 : Hid (∀ W, Ext w W → Calls Try.prog 12 #[p.v, .int .i64 x] W fun e w' => e = .returned (.tuple #[.int .i64 (tkv p.z x : Nat), .int .i64 (tks p.z x : Nat), .int .i64 (pxe p.z x)]) ∧ Qt W w') := fun W e => stake_any p x W (hp.ext e)
  have hE : (pxe p.z x == 0) = false := by rw [beq_eq_false_iff_ne]; exact h
  have hE2 : (pxe p.z x != 0) = true := by rw [bne_iff_ne]; exact h
  have c3 : Hid (∀ W, Ext w W → Calls Try.prog 17 #[p.v, .int .i64 x] W fun e w' => e = .returned (.bool false) ∧ w' = W) := fun W e => by
    have := parted_any p x W (hp.ext e)
    rw [hE] at this
    exact this
  obtain ⟨a, n, c, hv⟩ : ∃ a n c, p.v = .slice a n c := ⟨_, _, _, rfl⟩
  rw [hv] at c1 c2 c3 ⊢
  generalize pxe p.z x = E at *
  generalize tkv p.z x = V at *
  generalize tks p.z x = S at *
  clear h hp hv
  go_enter Try.func7, Try.ntmps7
  go_wp2_with fail
  refine c1.mono ?_
  rintro e w1 ⟨rfl, hq⟩
  have E1 : Hid (Ext w w1) := hq.ext
  clear c1 hq
  go_wp2_with fail
  refine (c2.out w1 E1.out).mono ?_
  rintro e w2 ⟨rfl, hq⟩
  have E2 : Hid (Ext w w2) := E1.out.trans hq.ext
  clear c2 hq
  go_wp2_with fail
  refine (c3.out w2 E2.out).mono ?_
  rintro e w3 ⟨rfl, rfl⟩
  clear c3
  go_wp2
  go_ret
  exact ⟨ret_bool (by simp), E2.out⟩

theorem stateBack_good (p : Nm) (x : Nat) (s : Int) (w : World) (hp : Nums w p) (h : pxe p.z x = 0) : Calls Try.prog 7 #[p.v, .int .i64 x, .int .i64 s] w fun e w' => e = .returned (.bool true) ∧ Ext w w' := by
  have c1 := sput_any p x s w hp
  obtain ⟨hh1, hh2, hh3⟩ := pxe_ok h
  obtain ⟨b, o, g⟩ := good_parts hp hh1
  have hone := g.one
  have e1 : tkv p.z x = tx (nt p.z) x := by
    unfold tkv
    rw [if_pos h, Int.toNat_natCast]
  have e2 : tks p.z x = ts (nt p.z) x := by
    unfold tks
    rw [if_pos h, Int.toNat_natCast]
  have c2 : Hid (∀ W, Ext w W → Calls Try.prog 12 #[p.v, .int .i64 x] W fun e w' => e = .returned (.tuple #[.int .i64 (tx (nt p.z) x : Nat), .int .i64 (ts (nt p.z) x : Nat), .int .i64 0]) ∧ Qt W w') := fun W e => by
    have := stake_any p x W (hp.ext e)
    rw [e1, e2, h] at this
    exact this
  have c3 : Hid (∀ W, Ext w W → Calls Try.prog 17 #[p.v, .int .i64 x] W fun e w' => e = .returned (.bool true) ∧ w' = W) := fun W e => by
    have := parted_any p x W (hp.ext e)
    rw [h] at this
    exact this
  have c4 : Hid (∀ W, Ext w W → Calls Try.prog 9 #[p.v, .int .i64 (tx (nt p.z) x : Nat), .int .i64 (ts (nt p.z) x : Nat)] W fun e w' => e = .returned (.tuple #[.int .i64 x, .int .i64 0]) ∧ Qt W w') := fun W e => by
    have := sput_any p (tx (nt p.z) x : Nat) (ts (nt p.z) x : Nat) W (hp.ext e)
    have hle := tx_le (p := nt p.z) (x := x) (by omega)
    have hpx : pxe p.z (tx (nt p.z) x : Nat) = 0 := pxe_good hh1 (by omega) (by omega)
    have hpe : pe (nt p.z) (tx (nt p.z) x) (ts (nt p.z) x : Nat) = 0 := by
      rw [pe_nat (ts_pos (by omega)), put_take (by omega), if_pos (by omega)]
    have hpv : pv (nt p.z) (tx (nt p.z) x) (ts (nt p.z) x : Nat) = x := by
      unfold pv
      rw [if_pos hpe, Int.toNat_natCast, put_take (by omega)]
    rw [pte_good hpx, ptv_good hpx, Int.toNat_natCast, hpe, hpv] at this
    exact this
  rw [pte_good h, ptv_good h, Int.toNat_natCast] at c1
  by_cases hs : pe (nt p.z) x s = 0
  · obtain ⟨k, rfl, hk1, hk2, hk3, hk4⟩ := pe_ok hs
    rw [hs, hk4] at c1
    have c5 : Hid (∀ W, Ext w W → Calls Try.prog 12 #[p.v, .int .i64 (pu (nt p.z) x k : Nat)] W fun e w' => e = .returned (.tuple #[.int .i64 x, .int .i64 k, .int .i64 0]) ∧ Qt W w') := fun W e => by
      have := stake_any p (pu (nt p.z) x k : Nat) W (hp.ext e)
      have hpx : pxe p.z (pu (nt p.z) x k : Nat) = 0 := pxe_good hh1 (by omega) (by omega)
      have q1 : tkv p.z (pu (nt p.z) x k : Nat) = x := by
        unfold tkv
        rw [if_pos hpx, Int.toNat_natCast, tx_put hk2]
      have q2 : tks p.z (pu (nt p.z) x k : Nat) = k := by
        unfold tks
        rw [if_pos hpx, Int.toNat_natCast, ts_put hk2]
      rw [q1, q2, hpx] at this
      exact this
    obtain ⟨a, n, c, hv⟩ : ∃ a n c, p.v = .slice a n c := ⟨_, _, _, rfl⟩
    rw [hv] at c1 c2 c3 c4 c5 ⊢
    generalize pu (nt p.z) x k = V at *
    generalize tx (nt p.z) x = Z at *
    generalize ts (nt p.z) x = S at *
    clear h hp hv g e1 e2 hh1 hs hk1 hk2 hk4 hone
    go_enter Try.func7, Try.ntmps7
    go_wp2_with fail
    refine c1.mono ?_
    rintro e w1 ⟨rfl, hq⟩
    have E1 : Hid (Ext w w1) := hq.ext
    clear c1 hq
    go_wp2_with fail
    refine (c2.out w1 E1.out).mono ?_
    rintro e w2 ⟨rfl, hq⟩
    have E2 : Hid (Ext w w2) := E1.out.trans hq.ext
    clear c2 hq
    go_wp2_with fail
    refine (c3.out w2 E2.out).mono ?_
    rintro e w3 ⟨rfl, rfl⟩
    clear c3
    go_wp2_with fail
    refine (c4.out w3 E2.out).mono ?_
    rintro e w4 ⟨rfl, hq⟩
    have E4 : Hid (Ext w w4) := E2.out.trans hq.ext
    clear c4 hq
    go_wp2_with fail
    refine (c5.out w4 E4.out).mono ?_
    rintro e w5 ⟨rfl, hq⟩
    have E5 : Hid (Ext w w5) := E4.out.trans hq.ext
    clear c5 hq
    go_wp2
    go_ret
    exact ⟨ret_bool (by simp), E5.out⟩
  · rw [pv_bad hs] at c1
    have hE2 : (pe (nt p.z) x s != 0) = true := by rw [bne_iff_ne]; exact hs
    obtain ⟨a, n, c, hv⟩ : ∃ a n c, p.v = .slice a n c := ⟨_, _, _, rfl⟩
    rw [hv] at c1 c2 c3 c4 ⊢
    generalize tx (nt p.z) x = Z at *
    generalize ts (nt p.z) x = S at *
    generalize pe (nt p.z) x s = E at *
    clear h hp hv g e1 e2 hh1 hs hone
    go_enter Try.func7, Try.ntmps7
    go_wp2_with fail
    refine c1.mono ?_
    rintro e w1 ⟨rfl, hq⟩
    have E1 : Hid (Ext w w1) := hq.ext
    clear c1 hq
    go_wp2_with fail
    refine (c2.out w1 E1.out).mono ?_
    rintro e w2 ⟨rfl, hq⟩
    have E2 : Hid (Ext w w2) := E1.out.trans hq.ext
    clear c2 hq
    go_wp2_with fail
    refine (c3.out w2 E2.out).mono ?_
    rintro e w3 ⟨rfl, rfl⟩
    clear c3
    go_wp2_with fail
    refine (c4.out w3 E2.out).mono ?_
    rintro e w4 ⟨rfl, hq⟩
    have E4 : Hid (Ext w w4) := E2.out.trans hq.ext
    clear c4 hq
    go_wp2
    go_ret
    exact ⟨ret_bool (by simp), E4.out⟩

theorem stateBack_walk (p : Nm) (x s : Int) (w : World) (hp : Nums w p) : Calls Try.prog 7 #[p.v, .int .i64 x, .int .i64 s] w fun e w' => e = .returned (.bool true) ∧ Ext w w' := by
  by_cases h : pxe p.z x = 0
  · obtain ⟨hh1, hh2, hh3⟩ := pxe_ok h
    obtain ⟨y, rfl⟩ : ∃ y : Nat, x = y := ⟨x.toNat, by omega⟩
    exact stateBack_good p y s w hp h
  · exact stateBack_bad p x s w hp h

set_option maxRecDepth 100000 in
theorem stateBack_lifted (os : Os) (started : os.Started) (H : Type) (enc : TypeId × Value → H) :
    ReturnsInHanded {} Try.checked os 7 .any (Rows.stateBackSpec.pre6 enc Try.prog Try.f7 Rows.stateBackRow.domain false) (Rows.stateBackSpec.post enc Try.prog Try.f7 false true false false) := by
  refine returnsInHanded_of_change (C := Try.checked) own started (by kernel_rfl) Try.func7
    (ChangeSpec.witness6 (enc := enc) (C := Try.checked) false ⟨#[], #[.slice none 0 0, .int .i64 0, .int .i64 0], []⟩ 8 (by kernel_rfl) (by kernel_rfl) (by kernel_rfl) (by kernel_rfl)) ?_
  intro W base args ds gs before hval0 hW _ _
  have hval : ∀ (j : Nat) t v, Try.f7.params[j]? = some t → args[j]? = some v → Value.okWide Try.prog W .any base t v := hval0
  have hW' := hW
  obtain ⟨p, q, hA0, hV, rfl, hfz, hnd⟩ := hW
  have hA : DataW.TrodAll enc Try.prog W 0 (fun _ => true) true Try.f7.params.toList args.toList ds p := hA0
  rw [Try.params7] at hA hval
  obtain ⟨v0, vs0, d0, ds0, p0, q0, hargs, rfl, rfl, h0, r0⟩ := trodAll_cons hA
  obtain ⟨v1, vs1, d1, ds1, p1, q1, rfl, rfl, rfl, h1, r1⟩ := trodAll_cons r0
  obtain ⟨v2, vs2, d2, ds2, p2, q2, rfl, rfl, rfl, h2, r2⟩ := trodAll_cons r1
  obtain ⟨rfl, rfl, rfl⟩ := trodAll_nil r2
  obtain rfl : args = #[v0, v1, v2] := by cases args; simp_all
  obtain ⟨rfl, rfl⟩ := trodVars_none hV
  have lt0 : ∀ x ∈ p0, x.block < W.heap.size := by obtain ⟨m, hm⟩ := h0; exact DataW.trod_lt m _ _ _ hm
  obtain ⟨x0, rfl, w0⟩ := open_syms (hval 0 22 v0 rfl rfl) h0
  have lt1 : ∀ x ∈ p1, x.block < W.heap.size := by obtain ⟨m, hm⟩ := h1; exact DataW.trod_lt m _ _ _ hm
  obtain ⟨x1, rfl, -, -, wf1⟩ := open_int Try.underlying2 (hval 1 2 v1 rfl rfl) h1
  have lt2 : ∀ x ∈ p2, x.block < W.heap.size := by obtain ⟨m, hm⟩ := h2; exact DataW.trod_lt m _ _ _ hm
  obtain ⟨x2, rfl, -, -, wf2⟩ := open_int Try.underlying3 (hval 2 3 v2 rfl rfl) h2
  clear hA0 hval0
  refine (stateBack_walk x0 x1 x2 W w0).mono fun e W' ⟨he, bel⟩ => ?_
  subst he
  exact ⟨_, rfl, _, _, _, [], _, [], hW', trodAll_mk1 (shut_bool Try.underlying4 _), (trodAll_cons_mk (Below.trod laidOut (by kernel_rfl) (of_decide_eq_true (by kernel_rfl)) h0 bel lt0) (trodAll_cons_mk (Below.trod laidOut (by kernel_rfl) (of_decide_eq_true (by kernel_rfl)) h1 bel lt1) (trodAll_cons_mk (Below.trod laidOut (by kernel_rfl) (of_decide_eq_true (by kernel_rfl)) h2 bel lt2) trodAll_mk0))), rfl, bel.frame _, fun h => by cases h⟩

theorem stateBack_holds : Rows.StateBackSaid :=
  OpenClaim.holds_of_wide 7 Try.f7 rfl rfl rfl rfl rfl rfl rfl ⟨rfl, rfl, rfl, rfl, rfl⟩ rfl rfl rfl rfl rfl (by kernel_rfl) Try.func7 (by kernel_rfl)
    (of_decide_eq_true (by kernel_rfl)) (by unfold Func.isWrapper; rw [if_neg (of_decide_eq_false (by kernel_rfl))]; exact ⟨rfl, rfl⟩)
    (fun os started H enc _ => stateBack_lifted os started H enc)

#print axioms stateBack_holds

end Go.Proofs.Ytchnlbanhkigjaa
