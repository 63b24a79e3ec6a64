/-
  For any parts, any number and any symbol: state.Put tells what comes of both: StatePuts returns true for every list of parts, every number and every symbol, and changes nothing.
-/
import Derived.Test.YtchnlbanhkigjaaOpen
import Derived.Test.YtchnlbanhkigjaaRf
namespace Go.Proofs.Ytchnlbanhkigjaa
open Go.ChangeShapes Go.WideShapes Go.ChangeAt Go.RowKit Go.Deep
set_option linter.unusedVariables false

theorem statePuts_bad (p : Nm) (x s : Int) (w : World) (hp : Nums w p) (h : pxe p.z x ≠ 0) : Calls Try.prog 3 #[p.v, .int .i64 x, .int .i64 s] w fun e w' => e = .returned (.bool true) ∧ Ext w w' := by
  have c1 := sput_any p x s w hp
  rw [pte_bad h, ptv_bad h] at c1
  have c2 : Hid (∀ W, Ext w W → Calls Try.prog 10 #[p.v, .int .i64 x] W fun e w' => e = .returned (.int .i64 (pxe p.z x)) ∧ w' = W) := fun W e => parts_any p x W (hp.ext e)
  have hE : (pxe p.z x == 0) = false := by rw [beq_eq_false_iff_ne]; exact h
  have hE2 : (pxe p.z x != 0) = true := by rw [bne_iff_ne]; exact h
  obtain ⟨a, n, c, hv⟩ : ∃ a n c, p.v = .slice a n c := ⟨_, _, _, rfl⟩
  rw [hv] at c1 c2 ⊢
  generalize pxe p.z x = E at *
  clear h hp hv
  go_enter Try.func3, Try.ntmps3
  go_wp2_with fail
  refine c1.mono ?_
  rintro e w1 ⟨rfl, hq⟩
  have E1 : Hid (Ext w w1) := hq.ext
  clear c1 hq
  go_wp2_with fail
  refine (c2.out w1 E1.out).mono ?_
  rintro e w2 ⟨rfl, rfl⟩
  clear c2
  go_wp2
  go_ret
  exact ⟨ret_bool (by simp), E1.out⟩

theorem statePuts_low (p : Nm) (x s : Int) (w : World) (hp : Nums w p) (h : pxe p.z x = 0) (hs : s < 0) : Calls Try.prog 3 #[p.v, .int .i64 x, .int .i64 s] w fun e w' => e = .returned (.bool true) ∧ Ext w w' := by
  have c1 := sput_any p x s w hp
  have e1 : pe (nt p.z) x.toNat s = 2 := pe_arg (by omega)
  rw [pte_good h, ptv_good h, pv_bad (by rw [e1]; decide), e1] at c1
  have c2 : Hid (∀ W, Ext w W → Calls Try.prog 10 #[p.v, .int .i64 x] W fun e w' => e = .returned (.int .i64 0) ∧ w' = W) := fun W e => by
    have := parts_any p x W (hp.ext e)
    rw [h] at this
    exact this
  obtain ⟨a, n, c, hv⟩ : ∃ a n c, p.v = .slice a n c := ⟨_, _, _, rfl⟩
  rw [hv] at c1 c2 ⊢
  clear h hp hv e1
  go_enter Try.func3, Try.ntmps3
  go_wp2_with fail
  refine c1.mono ?_
  rintro e w1 ⟨rfl, hq⟩
  have E1 : Hid (Ext w w1) := hq.ext
  clear c1 hq
  go_wp2_with fail
  refine (c2.out w1 E1.out).mono ?_
  rintro e w2 ⟨rfl, rfl⟩
  clear c2
  go_wp2
  go_ret
  exact ⟨ret_bool (by simp), E1.out⟩

theorem statePuts_high (p : Nm) (x s : Int) (w : World) (hp : Nums w p) (h : pxe p.z x = 0) (hs : (p.z.length : Int) ≤ s) : Calls Try.prog 3 #[p.v, .int .i64 x, .int .i64 s] w fun e w' => e = .returned (.bool true) ∧ Ext w w' := by
  have c1 := sput_any p x s w hp
  have e1 : pe (nt p.z) x.toNat s = 2 := pe_arg (by rw [nt_length]; omega)
  rw [pte_good h, ptv_good h, pv_bad (by rw [e1]; decide), e1] at c1
  have c2 : Hid (∀ W, Ext w W → Calls Try.prog 10 #[p.v, .int .i64 x] W fun e w' => e = .returned (.int .i64 0) ∧ w' = W) := fun W e => by
    have := parts_any p x W (hp.ext e)
    rw [h] at this
    exact this
  have h0 : ¬ s < 0 := by omega
  have h8 := (per_ok (pxe_ok h).1).1
  obtain ⟨a, c, hv⟩ : ∃ a c, p.v = .slice a p.z.length c := ⟨_, _, rfl⟩
  rw [hv] at c1 c2 ⊢
  generalize p.z.length = n at *
  clear h hp hv e1
  go_enter Try.func3, Try.ntmps3
  go_wp2_with fail
  refine c1.mono ?_
  rintro e w1 ⟨rfl, hq⟩
  have E1 : Hid (Ext w w1) := hq.ext
  clear c1 hq
  go_wp2_with fail
  refine (c2.out w1 E1.out).mono ?_
  rintro e w2 ⟨rfl, rfl⟩
  clear c2
  go_wp2
  go_ret
  exact ⟨ret_bool (by simp), E1.out⟩

theorem statePuts_none (p : Nm) (x : Int) (s : Nat) (w : World) (hp : Nums w p) (h : pxe p.z x = 0) (hs : s < p.z.length) (hk : pt (nt p.z) s = 0) : Calls Try.prog 3 #[p.v, .int .i64 x, .int .i64 s] w fun e w' => e = .returned (.bool true) ∧ Ext w w' := by
  have c1 := sput_any p x s w hp
  have e1 : pe (nt p.z) x.toNat s = 2 := pe_arg (by rw [Int.toNat_natCast]; omega)
  rw [pte_good h, ptv_good h, pv_bad (by rw [e1]; decide), e1] at c1
  have c2 : Hid (∀ W, Ext w W → Calls Try.prog 10 #[p.v, .int .i64 x] W fun e w' => e = .returned (.int .i64 0) ∧ w' = W) := fun W e => by
    have := parts_any p x W (hp.ext e)
    rw [h] at this
    exact this
  obtain ⟨b, o, g⟩ := good_parts hp (pxe_ok h).1
  have h8 := g.few
  have hl := g.len
  have e0 := g.pa s (by omega)
  rw [hk] at e0
  have h0 : ¬ (s : Int) < 0 := by omega
  rw [g.v] at c1 c2 ⊢
  rw [hl] at hs
  generalize (nt p.z).length = n at *
  generalize p.c = c at *
  have h1 : ¬ (n : Int) ≤ (s : Int) := by omega
  have E0 : Hid (w.cell? ⟨b, o + s, none⟩ = some (.int .i64 0)) := e0
  clear h hp e1 g hl e0 hk
  go_enter Try.func3, Try.ntmps3
  go_wp2_with fail
  refine c1.mono ?_
  rintro e w1 ⟨rfl, hq⟩
  have E1 : Hid (Ext w w1) := hq.ext
  have e0 := hq.cell E0.out
  clear c1 hq E0
  go_wp2_with fail
  refine (c2.out w1 E1.out).mono ?_
  rintro e w2 ⟨rfl, rfl⟩
  clear c2
  go_wp2
  go_ret
  exact ⟨ret_bool (by simp), E1.out⟩

theorem statePuts_some (p : Nm) (x s : Nat) (w : World) (hp : Nums w p) (h : pxe p.z x = 0) (hk : 0 < pt (nt p.z) s) : Calls Try.prog 3 #[p.v, .int .i64 x, .int .i64 s] w fun e w' => e = .returned (.bool true) ∧ Ext w w' := by
  have c1 := sput_any p x s w hp
  have e1 := pe_nat (x := x) hk
  have c2 : Hid (∀ W, Ext w W → Calls Try.prog 10 #[p.v, .int .i64 x] W fun e w' => e = .returned (.int .i64 0) ∧ w' = W) := fun W e => by
    have := parts_any p x W (hp.ext e)
    rw [h] at this
    exact this
  obtain ⟨hh1, hh2, hh3⟩ := pxe_ok h
  obtain ⟨b, o, g⟩ := good_parts hp hh1
  have h8 := g.few
  have hs : s < (nt p.z).length := by
    rcases Nat.lt_or_ge s (nt p.z).length with h' | h'
    · exact h'
    · rw [pt_none h'] at hk; omega
  have e0 := g.pa s hs
  have c3 : Hid (∀ W, Ext w W → Calls Try.prog 11 #[p.v, .int .i64 x, .int .i64 s] W fun e w' => e = .returned (.int .i64 (pu (nt p.z) x s : Nat)) ∧ Ext W w') := fun W e => by
    rw [g.v]
    exact rput_any b o _ p.c (nt p.z) x s W rfl g.few g.one g.most (by omega) hs hk (g.pa.ext e)
  rw [pte_good h, ptv_good h, Int.toNat_natCast] at c1
  have h0 : ¬ (s : Int) < 0 := by omega
  have hfew : pu (nt p.z) x s ≤ 17592186044432 + 32 := by
    have f1 := fs_le (nt p.z) s
    have f2 : x / pt (nt p.z) s ≤ x := Nat.div_le_self _ _
    have f3 : x % pt (nt p.z) s < pt (nt p.z) s := Nat.mod_lt _ hk
    have f4 : x / pt (nt p.z) s * (nt p.z).sum ≤ x * 16 := Nat.mul_le_mul f2 g.most
    have := g.most
    unfold pu
    omega
  have hpv : pv (nt p.z) x s = if pu (nt p.z) x s ≤ 1099511627776 then pu (nt p.z) x s else 0 := by
    by_cases hh : pu (nt p.z) x s ≤ 1099511627776
    · rw [if_pos hh] at e1 ⊢
      unfold pv
      rw [if_pos e1, Int.toNat_natCast]
    · rw [if_neg hh] at e1 ⊢
      exact pv_bad (by rw [e1]; decide)
  rw [e1, hpv] at c1
  rw [g.v] at c1 c2 c3 ⊢
  generalize pu (nt p.z) x s = V at *
  generalize pt (nt p.z) s = k at *
  generalize (nt p.z).length = n at *
  generalize p.c = c at *
  have h1 : ¬ (n : Int) ≤ (s : Int) := by omega
  have hk0 : ((k : Int) == 0) = false := by rw [beq_eq_false_iff_ne]; omega
  have E0 : Hid (w.cell? ⟨b, o + s, none⟩ = some (.int .i64 k)) := e0
  clear h hp e1 g e0 hpv
  by_cases hh : V ≤ 1099511627776
  · rw [if_pos hh, if_pos hh] at c1
    go_enter Try.func3, Try.ntmps3
    go_wp2_with fail
    refine c1.mono ?_
    rintro e w1 ⟨rfl, hq⟩
    have E1 : Hid (Ext w w1) := hq.ext
    have e0 := hq.cell E0.out
    clear c1 hq E0
    go_wp2_with fail
    refine (c2.out w1 E1.out).mono ?_
    rintro e w2 ⟨rfl, rfl⟩
    clear c2
    go_wp2_with fail
    refine (c3.out w2 E1.out).mono ?_
    rintro e w3 ⟨rfl, hq⟩
    have E3 : Hid (Ext w w3) := E1.out.trans hq
    clear hq
    go_wp2_with fail
    refine (c3.out w3 E3.out).mono ?_
    rintro e w4 ⟨rfl, hq⟩
    have E4 : Hid (Ext w w4) := E3.out.trans hq
    clear hq
    go_wp2
    go_ret
    exact ⟨ret_bool (by simp), E4.out⟩
  · rw [if_neg hh, if_neg hh] at c1
    go_enter Try.func3, Try.ntmps3
    go_wp2_with fail
    refine c1.mono ?_
    rintro e w1 ⟨rfl, hq⟩
    have E1 : Hid (Ext w w1) := hq.ext
    have e0 := hq.cell E0.out
    clear c1 hq E0
    go_wp2_with fail
    refine (c2.out w1 E1.out).mono ?_
    rintro e w2 ⟨rfl, rfl⟩
    clear c2
    go_wp2_with fail
    refine (c3.out w2 E1.out).mono ?_
    rintro e w3 ⟨rfl, hq⟩
    have E3 : Hid (Ext w w3) := E1.out.trans hq
    clear hq
    go_wp2
    go_ret
    exact ⟨ret_bool (by simp), E3.out⟩

theorem statePuts_walk (p : Nm) (x s : Int) (w : World) (hp : Nums w p) : Calls Try.prog 3 #[p.v, .int .i64 x, .int .i64 s] w fun e w' => e = .returned (.bool true) ∧ Ext w w' := by
  by_cases h : pxe p.z x = 0
  · by_cases h1 : s < 0
    · exact statePuts_low p x s w hp h h1
    · by_cases h2 : (p.z.length : Int) ≤ s
      · exact statePuts_high p x s w hp h h2
      · obtain ⟨k, rfl⟩ : ∃ k : Nat, s = k := ⟨s.toNat, by omega⟩
        obtain ⟨hh1, hh2, hh3⟩ := pxe_ok h
        obtain ⟨y, rfl⟩ : ∃ y : Nat, x = y := ⟨x.toNat, by omega⟩
        rcases Nat.eq_zero_or_pos (pt (nt p.z) k) with h3 | h3
        · exact statePuts_none p y k w hp h (by omega) h3
        · exact statePuts_some p y k w hp h h3
  · exact statePuts_bad p x s w hp h

set_option maxRecDepth 100000 in
theorem statePuts_lifted (os : Os) (started : os.Started) (H : Type) (enc : TypeId × Value → H) :
    ReturnsInHanded {} Try.checked os 3 .any (Rows.statePutsSpec.pre6 enc Try.prog Try.f3 Rows.statePutsRow.domain false) (Rows.statePutsSpec.post enc Try.prog Try.f3 false true false false) := by
  refine returnsInHanded_of_change (C := Try.checked) own started (by kernel_rfl) Try.func3
    (ChangeSpec.witness6 (enc := enc) (C := Try.checked) false ⟨#[], #[.slice none 0 0, .int .i64 0, .int .i64 0], []⟩ 8 (by kernel_rfl) (by kernel_rfl) (by kernel_rfl) (by kernel_rfl)) ?_
  intro W base args ds gs before hval0 hW _ _
  have hval : ∀ (j : Nat) t v, Try.f3.params[j]? = some t → args[j]? = some v → Value.okWide Try.prog W .any base t v := hval0
  have hW' := hW
  obtain ⟨p, q, hA0, hV, rfl, hfz, hnd⟩ := hW
  have hA : DataW.TrodAll enc Try.prog W 0 (fun _ => true) true Try.f3.params.toList args.toList ds p := hA0
  rw [Try.params3] at hA hval
  obtain ⟨v0, vs0, d0, ds0, p0, q0, hargs, rfl, rfl, h0, r0⟩ := trodAll_cons hA
  obtain ⟨v1, vs1, d1, ds1, p1, q1, rfl, rfl, rfl, h1, r1⟩ := trodAll_cons r0
  obtain ⟨v2, vs2, d2, ds2, p2, q2, rfl, rfl, rfl, h2, r2⟩ := trodAll_cons r1
  obtain ⟨rfl, rfl, rfl⟩ := trodAll_nil r2
  obtain rfl : args = #[v0, v1, v2] := by cases args; simp_all
  obtain ⟨rfl, rfl⟩ := trodVars_none hV
  have lt0 : ∀ x ∈ p0, x.block < W.heap.size := by obtain ⟨m, hm⟩ := h0; exact DataW.trod_lt m _ _ _ hm
  obtain ⟨x0, rfl, w0⟩ := open_syms (hval 0 22 v0 rfl rfl) h0
  have lt1 : ∀ x ∈ p1, x.block < W.heap.size := by obtain ⟨m, hm⟩ := h1; exact DataW.trod_lt m _ _ _ hm
  obtain ⟨x1, rfl, -, -, wf1⟩ := open_int Try.underlying2 (hval 1 2 v1 rfl rfl) h1
  have lt2 : ∀ x ∈ p2, x.block < W.heap.size := by obtain ⟨m, hm⟩ := h2; exact DataW.trod_lt m _ _ _ hm
  obtain ⟨x2, rfl, -, -, wf2⟩ := open_int Try.underlying3 (hval 2 3 v2 rfl rfl) h2
  clear hA0 hval0
  refine (statePuts_walk x0 x1 x2 W w0).mono fun e W' ⟨he, bel⟩ => ?_
  subst he
  exact ⟨_, rfl, _, _, _, [], _, [], hW', trodAll_mk1 (shut_bool Try.underlying4 _), (trodAll_cons_mk (Below.trod laidOut (by kernel_rfl) (of_decide_eq_true (by kernel_rfl)) h0 bel lt0) (trodAll_cons_mk (Below.trod laidOut (by kernel_rfl) (of_decide_eq_true (by kernel_rfl)) h1 bel lt1) (trodAll_cons_mk (Below.trod laidOut (by kernel_rfl) (of_decide_eq_true (by kernel_rfl)) h2 bel lt2) trodAll_mk0))), rfl, bel.frame _, fun h => by cases h⟩

theorem statePuts_holds : Rows.StatePutsSaid :=
  OpenClaim.holds_of_wide 3 Try.f3 rfl rfl rfl rfl rfl rfl rfl ⟨rfl, rfl, rfl, rfl, rfl⟩ rfl rfl rfl rfl rfl (by kernel_rfl) Try.func3 (by kernel_rfl)
    (of_decide_eq_true (by kernel_rfl)) (by unfold Func.isWrapper; rw [if_neg (of_decide_eq_false (by kernel_rfl))]; exact ⟨rfl, rfl⟩)
    (fun os started H enc _ => statePuts_lifted os started H enc)

#print axioms statePuts_holds

end Go.Proofs.Ytchnlbanhkigjaa
