/-
  For any parts, any two numbers and any symbol: what comes of the greater one is greater, and no less than it was: StateRises returns true for every list of parts, every two numbers and every symbol, and changes nothing.
-/
import Derived.Test.YtchnlbanhkigjabOpen
import Derived.Test.YtchnlbanhkigjabFc
namespace Go.Proofs.Ytchnlbanhkigjab
open Go.ChangeShapes Go.WideShapes Go.ChangeAt Go.RowKit Go.Deep
set_option linter.unusedVariables false

theorem rises_a (q : Option Addr) (n c : Nat) (a b s : Int) (w : World) (V V2 E F : Int) (hE : E ≠ 0)
    (c1 : Calls Try.prog 4 #[.slice q n c, .int .i64 a, .int .i64 s] w fun e w' => e = .returned (.tuple #[.int .i64 V, .int .i64 E]) ∧ Qt w w')
    (c2 : Hid (∀ W, Ext w W → Calls Try.prog 4 #[.slice q n c, .int .i64 b, .int .i64 s] W fun e w' => e = .returned (.tuple #[.int .i64 V2, .int .i64 F]) ∧ Qt W w'))
    (c3 : Hid (∀ W, Ext w W → Calls Try.prog 5 #[.slice q n c, .int .i64 a] W fun e w' => e = .returned (.bool false) ∧ w' = W)) :
    Calls Try.prog 3 #[.slice q n c, .int .i64 a, .int .i64 b, .int .i64 s] w fun e w' => e = .returned (.bool true) ∧ Ext w w' := by
  have h1 : (E != 0) = true := by rw [bne_iff_ne]; exact hE
  clear hE
  go_enter Try.func3, Try.ntmps3
  go_wp2_with fail
  refine c1.mono ?_
  rintro e w1 ⟨rfl, hq⟩
  have E1 : Hid (Ext w w1) := hq.ext
  clear c1 hq
  go_wp2_with fail
  refine (c2.out w1 E1.out).mono ?_
  rintro e w2 ⟨rfl, hq⟩
  have E2 : Hid (Ext w w2) := E1.out.trans hq.ext
  clear c2 hq E1
  go_wp2_with fail
  refine (c3.out w2 E2.out).mono ?_
  rintro e w3 ⟨rfl, rfl⟩
  clear c3
  go_wp2
  go_ret
  exact ⟨ret_bool (by simp), E2.out⟩

theorem rises_b (q : Option Addr) (n c : Nat) (a b s : Int) (w : World) (V V2 E F : Int) (hF : F ≠ 0)
    (c1 : Calls Try.prog 4 #[.slice q n c, .int .i64 a, .int .i64 s] w fun e w' => e = .returned (.tuple #[.int .i64 V, .int .i64 E]) ∧ Qt w w')
    (c2 : Hid (∀ W, Ext w W → Calls Try.prog 4 #[.slice q n c, .int .i64 b, .int .i64 s] W fun e w' => e = .returned (.tuple #[.int .i64 V2, .int .i64 F]) ∧ Qt W w'))
    (c3 : Hid (∀ W, Ext w W → Calls Try.prog 5 #[.slice q n c, .int .i64 a] W fun e w' => e = .returned (.bool true) ∧ w' = W))
    (c4 : Hid (∀ W, Ext w W → Calls Try.prog 5 #[.slice q n c, .int .i64 b] W fun e w' => e = .returned (.bool false) ∧ w' = W)) :
    Calls Try.prog 3 #[.slice q n c, .int .i64 a, .int .i64 b, .int .i64 s] w fun e w' => e = .returned (.bool true) ∧ Ext w w' := by
  have h1 : (F != 0) = true := by rw [bne_iff_ne]; exact hF
  clear hF
  by_cases hE : E = 0
  · subst hE
    go_enter Try.func3, Try.ntmps3
    go_wp2_with fail
    refine c1.mono ?_
    rintro e w1 ⟨rfl, hq⟩
    have E1 : Hid (Ext w w1) := hq.ext
    clear c1 hq
    go_wp2_with fail
    refine (c2.out w1 E1.out).mono ?_
    rintro e w2 ⟨rfl, hq⟩
    have E2 : Hid (Ext w w2) := E1.out.trans hq.ext
    clear c2 hq E1
    go_wp2_with fail
    refine (c3.out w2 E2.out).mono ?_
    rintro e w3 ⟨rfl, rfl⟩
    clear c3
    go_wp2_with fail
    refine (c4.out w3 E2.out).mono ?_
    rintro e w4 ⟨rfl, rfl⟩
    clear c4
    go_wp2
    go_ret
    exact ⟨ret_bool (by simp), E2.out⟩
  · have h2 : (E != 0) = true := by rw [bne_iff_ne]; exact hE
    clear hE
    go_enter Try.func3, Try.ntmps3
    go_wp2_with fail
    refine c1.mono ?_
    rintro e w1 ⟨rfl, hq⟩
    have E1 : Hid (Ext w w1) := hq.ext
    clear c1 hq
    go_wp2_with fail
    refine (c2.out w1 E1.out).mono ?_
    rintro e w2 ⟨rfl, hq⟩
    have E2 : Hid (Ext w w2) := E1.out.trans hq.ext
    clear c2 hq E1
    go_wp2_with fail
    refine (c3.out w2 E2.out).mono ?_
    rintro e w3 ⟨rfl, rfl⟩
    clear c3
    go_wp2_with fail
    refine (c4.out w3 E2.out).mono ?_
    rintro e w4 ⟨rfl, rfl⟩
    clear c4
    go_wp2
    go_ret
    exact ⟨ret_bool (by simp), E2.out⟩

theorem rises_c (q : Option Addr) (n c : Nat) (a b s : Int) (w : World) (V2 E F : Int) (hE : E ≠ 0)
    (c1 : Calls Try.prog 4 #[.slice q n c, .int .i64 a, .int .i64 s] w fun e w' => e = .returned (.tuple #[.int .i64 0, .int .i64 E]) ∧ Qt w w')
    (c2 : Hid (∀ W, Ext w W → Calls Try.prog 4 #[.slice q n c, .int .i64 b, .int .i64 s] W fun e w' => e = .returned (.tuple #[.int .i64 V2, .int .i64 F]) ∧ Qt W w'))
    (c3 : Hid (∀ W, Ext w W → Calls Try.prog 5 #[.slice q n c, .int .i64 a] W fun e w' => e = .returned (.bool true) ∧ w' = W))
    (c4 : Hid (∀ W, Ext w W → Calls Try.prog 5 #[.slice q n c, .int .i64 b] W fun e w' => e = .returned (.bool true) ∧ w' = W)) :
    Calls Try.prog 3 #[.slice q n c, .int .i64 a, .int .i64 b, .int .i64 s] w fun e w' => e = .returned (.bool true) ∧ Ext w w' := by
  have h1 : (E != 0) = true := by rw [bne_iff_ne]; exact hE
  have h2 : (E == 0) = false := by rw [beq_eq_false_iff_ne]; exact hE
  clear hE
  go_enter Try.func3, Try.ntmps3
  go_wp2_with fail
  refine c1.mono ?_
  rintro e w1 ⟨rfl, hq⟩
  have E1 : Hid (Ext w w1) := hq.ext
  clear c1 hq
  go_wp2_with fail
  refine (c2.out w1 E1.out).mono ?_
  rintro e w2 ⟨rfl, hq⟩
  have E2 : Hid (Ext w w2) := E1.out.trans hq.ext
  clear c2 hq E1
  go_wp2_with fail
  refine (c3.out w2 E2.out).mono ?_
  rintro e w3 ⟨rfl, rfl⟩
  clear c3
  go_wp2_with fail
  refine (c4.out w3 E2.out).mono ?_
  rintro e w4 ⟨rfl, rfl⟩
  clear c4
  go_wp2
  go_ret
  exact ⟨ret_bool (by simp), E2.out⟩

theorem rises_d (q : Option Addr) (n c : Nat) (a b s : Int) (w : World) (V V2 F : Int) (hF : F ≠ 0)
    (c1 : Calls Try.prog 4 #[.slice q n c, .int .i64 a, .int .i64 s] w fun e w' => e = .returned (.tuple #[.int .i64 V, .int .i64 0]) ∧ Qt w w')
    (c2 : Hid (∀ W, Ext w W → Calls Try.prog 4 #[.slice q n c, .int .i64 b, .int .i64 s] W fun e w' => e = .returned (.tuple #[.int .i64 V2, .int .i64 F]) ∧ Qt W w'))
    (c3 : Hid (∀ W, Ext w W → Calls Try.prog 5 #[.slice q n c, .int .i64 a] W fun e w' => e = .returned (.bool true) ∧ w' = W))
    (c4 : Hid (∀ W, Ext w W → Calls Try.prog 5 #[.slice q n c, .int .i64 b] W fun e w' => e = .returned (.bool true) ∧ w' = W)) :
    Calls Try.prog 3 #[.slice q n c, .int .i64 a, .int .i64 b, .int .i64 s] w fun e w' => e = .returned (.bool true) ∧ Ext w w' := by
  have h1 : (F != 0) = true := by rw [bne_iff_ne]; exact hF
  clear hF
  go_enter Try.func3, Try.ntmps3
  go_wp2_with fail
  refine c1.mono ?_
  rintro e w1 ⟨rfl, hq⟩
  have E1 : Hid (Ext w w1) := hq.ext
  clear c1 hq
  go_wp2_with fail
  refine (c2.out w1 E1.out).mono ?_
  rintro e w2 ⟨rfl, hq⟩
  have E2 : Hid (Ext w w2) := E1.out.trans hq.ext
  clear c2 hq E1
  go_wp2_with fail
  refine (c3.out w2 E2.out).mono ?_
  rintro e w3 ⟨rfl, rfl⟩
  clear c3
  go_wp2_with fail
  refine (c4.out w3 E2.out).mono ?_
  rintro e w4 ⟨rfl, rfl⟩
  clear c4
  go_wp2
  go_ret
  exact ⟨ret_bool (by simp), E2.out⟩

theorem rises_e (q : Option Addr) (n c : Nat) (a b s : Int) (w : World) (V V2 : Int) (ha : a ≤ V) (hb : b ≤ V2) (hlt : a < b ↔ V < V2)
    (c1 : Calls Try.prog 4 #[.slice q n c, .int .i64 a, .int .i64 s] w fun e w' => e = .returned (.tuple #[.int .i64 V, .int .i64 0]) ∧ Qt w w')
    (c2 : Hid (∀ W, Ext w W → Calls Try.prog 4 #[.slice q n c, .int .i64 b, .int .i64 s] W fun e w' => e = .returned (.tuple #[.int .i64 V2, .int .i64 0]) ∧ Qt W w'))
    (c3 : Hid (∀ W, Ext w W → Calls Try.prog 5 #[.slice q n c, .int .i64 a] W fun e w' => e = .returned (.bool true) ∧ w' = W))
    (c4 : Hid (∀ W, Ext w W → Calls Try.prog 5 #[.slice q n c, .int .i64 b] W fun e w' => e = .returned (.bool true) ∧ w' = W)) :
    Calls Try.prog 3 #[.slice q n c, .int .i64 a, .int .i64 b, .int .i64 s] w fun e w' => e = .returned (.bool true) ∧ Ext w w' := by
  by_cases h1 : a < b
  · have h2 : V < V2 := hlt.1 h1
    clear hlt
    go_enter Try.func3, Try.ntmps3
    go_wp2_with fail
    refine c1.mono ?_
    rintro e w1 ⟨rfl, hq⟩
    have E1 : Hid (Ext w w1) := hq.ext
    clear c1 hq
    go_wp2_with fail
    refine (c2.out w1 E1.out).mono ?_
    rintro e w2 ⟨rfl, hq⟩
    have E2 : Hid (Ext w w2) := E1.out.trans hq.ext
    clear c2 hq E1
    go_wp2_with fail
    refine (c3.out w2 E2.out).mono ?_
    rintro e w3 ⟨rfl, rfl⟩
    clear c3
    go_wp2_with fail
    refine (c4.out w3 E2.out).mono ?_
    rintro e w4 ⟨rfl, rfl⟩
    clear c4
    go_wp2
    go_ret
    exact ⟨ret_bool (by simp), E2.out⟩
  · have h2 : ¬ V < V2 := fun h => h1 (hlt.2 h)
    clear hlt
    go_enter Try.func3, Try.ntmps3
    go_wp2_with fail
    refine c1.mono ?_
    rintro e w1 ⟨rfl, hq⟩
    have E1 : Hid (Ext w w1) := hq.ext
    clear c1 hq
    go_wp2_with fail
    refine (c2.out w1 E1.out).mono ?_
    rintro e w2 ⟨rfl, hq⟩
    have E2 : Hid (Ext w w2) := E1.out.trans hq.ext
    clear c2 hq E1
    go_wp2_with fail
    refine (c3.out w2 E2.out).mono ?_
    rintro e w3 ⟨rfl, rfl⟩
    clear c3
    go_wp2_with fail
    refine (c4.out w3 E2.out).mono ?_
    rintro e w4 ⟨rfl, rfl⟩
    clear c4
    go_wp2
    go_ret
    exact ⟨ret_bool (by simp), E2.out⟩

theorem stateRises_walk (p : Nm) (a b s : Int) (w : World) (hp : Nums w p) : Calls Try.prog 3 #[p.v, .int .i64 a, .int .i64 b, .int .i64 s] w fun e w' => e = .returned (.bool true) ∧ Ext w w' := by
  have c1 := sput_any p a s w hp
  have c2 : Hid (∀ W, Ext w W → Calls Try.prog 4 #[p.v, .int .i64 b, .int .i64 s] W fun e w' => e = .returned (.tuple #[.int .i64 (ptv p.z b s : Nat), .int .i64 (pte p.z b s)]) ∧ Qt W w') := fun W e => sput_any p b s W (hp.ext e)
  have c3 : Hid (∀ W, Ext w W → Calls Try.prog 5 #[p.v, .int .i64 a] W fun e w' => e = .returned (.bool (pxe p.z a == 0)) ∧ w' = W) := fun W e => parted_any p a W (hp.ext e)
  have c4 : Hid (∀ W, Ext w W → Calls Try.prog 5 #[p.v, .int .i64 b] W fun e w' => e = .returned (.bool (pxe p.z b == 0)) ∧ w' = W) := fun W e => parted_any p b W (hp.ext e)
  by_cases ha : pxe p.z a = 0
  · rw [show (pxe p.z a == 0) = true by rw [ha]; rfl] at c3
    by_cases hb : pxe p.z b = 0
    · rw [show (pxe p.z b == 0) = true by rw [hb]; rfl] at c4
      rw [pte_good ha, ptv_good ha] at c1
      rw [pte_good hb, ptv_good hb] at c2
      obtain ⟨_, a0, _⟩ := pxe_ok ha
      obtain ⟨_, b0, _⟩ := pxe_ok hb
      by_cases hE : pe (nt p.z) a.toNat s = 0
      · by_cases hF : pe (nt p.z) b.toNat s = 0
        · obtain ⟨k, rfl, _, hk, _, hv⟩ := pe_ok hE
          obtain ⟨k2, hk2, _, _, _, hv2⟩ := pe_ok hF
          obtain rfl : k = k2 := by omega
          rw [hE, hv] at c1
          rw [hF, hv2] at c2
          have g1 := pu_ge (p := nt p.z) a.toNat (s := k)
          have g2 := pu_ge (p := nt p.z) b.toNat (s := k)
          have g3 := pu_lt_iff (x := a.toNat) (y := b.toNat) hk
          exact rises_e p.a p.z.length p.c a b k w _ _ (by omega) (by omega) (by omega) c1 c2 c3 c4
        · rw [hE] at c1
          exact rises_d p.a p.z.length p.c a b s w _ _ _ hF c1 c2 c3 c4
      · rw [pv_bad hE] at c1
        exact rises_c p.a p.z.length p.c a b s w _ _ _ hE c1 c2 c3 c4
    · rw [show (pxe p.z b == 0) = false by rw [beq_eq_false_iff_ne]; exact hb] at c4
      exact rises_b p.a p.z.length p.c a b s w _ _ _ _ (by rw [pte_bad hb]; exact hb) c1 c2 c3 c4
  · rw [show (pxe p.z a == 0) = false by rw [beq_eq_false_iff_ne]; exact ha] at c3
    exact rises_a p.a p.z.length p.c a b s w _ _ _ _ (by rw [pte_bad ha]; exact ha) c1 c2 c3

set_option maxRecDepth 100000 in
theorem stateRises_lifted (os : Os) (started : os.Started) (H : Type) (enc : TypeId × Value → H) :
    ReturnsInHanded {} Try.checked os 3 .any (Rows.stateRisesSpec.pre6 enc Try.prog Try.f3 Rows.stateRisesRow.domain false) (Rows.stateRisesSpec.post enc Try.prog Try.f3 false true false false) := by
  refine returnsInHanded_of_change (C := Try.checked) own started (by kernel_rfl) Try.func3
    (ChangeSpec.witness6 (enc := enc) (C := Try.checked) false ⟨#[], #[.slice none 0 0, .int .i64 0, .int .i64 0, .int .i64 0], []⟩ 8 (by kernel_rfl) (by kernel_rfl) (by kernel_rfl) (by kernel_rfl)) ?_
  intro W base args ds gs before hval0 hW _ _
  have hval : ∀ (j : Nat) t v, Try.f3.params[j]? = some t → args[j]? = some v → Value.okWide Try.prog W .any base t v := hval0
  have hW' := hW
  obtain ⟨p, q, hA0, hV, rfl, hfz, hnd⟩ := hW
  have hA : DataW.TrodAll enc Try.prog W 0 (fun _ => true) true Try.f3.params.toList args.toList ds p := hA0
  rw [Try.params3] at hA hval
  obtain ⟨v0, vs0, d0, ds0, p0, q0, hargs, rfl, rfl, h0, r0⟩ := trodAll_cons hA
  obtain ⟨v1, vs1, d1, ds1, p1, q1, rfl, rfl, rfl, h1, r1⟩ := trodAll_cons r0
  obtain ⟨v2, vs2, d2, ds2, p2, q2, rfl, rfl, rfl, h2, r2⟩ := trodAll_cons r1
  obtain ⟨v3, vs3, d3, ds3, p3, q3, rfl, rfl, rfl, h3, r3⟩ := trodAll_cons r2
  obtain ⟨rfl, rfl, rfl⟩ := trodAll_nil r3
  obtain rfl : args = #[v0, v1, v2, v3] := by cases args; simp_all
  obtain ⟨rfl, rfl⟩ := trodVars_none hV
  have lt0 : ∀ x ∈ p0, x.block < W.heap.size := by obtain ⟨m, hm⟩ := h0; exact DataW.trod_lt m _ _ _ hm
  obtain ⟨x0, rfl, w0⟩ := open_syms (hval 0 22 v0 rfl rfl) h0
  have lt1 : ∀ x ∈ p1, x.block < W.heap.size := by obtain ⟨m, hm⟩ := h1; exact DataW.trod_lt m _ _ _ hm
  obtain ⟨x1, rfl, -, -, wf1⟩ := open_int Try.underlying2 (hval 1 2 v1 rfl rfl) h1
  have lt2 : ∀ x ∈ p2, x.block < W.heap.size := by obtain ⟨m, hm⟩ := h2; exact DataW.trod_lt m _ _ _ hm
  obtain ⟨x2, rfl, -, -, wf2⟩ := open_int Try.underlying2 (hval 2 2 v2 rfl rfl) h2
  have lt3 : ∀ x ∈ p3, x.block < W.heap.size := by obtain ⟨m, hm⟩ := h3; exact DataW.trod_lt m _ _ _ hm
  obtain ⟨x3, rfl, -, -, wf3⟩ := open_int Try.underlying3 (hval 3 3 v3 rfl rfl) h3
  clear hA0 hval0
  refine (stateRises_walk x0 x1 x2 x3 W w0).mono fun e W' ⟨he, bel⟩ => ?_
  subst he
  exact ⟨_, rfl, _, _, _, [], _, [], hW', trodAll_mk1 (shut_bool Try.underlying4 _), (trodAll_cons_mk (Below.trod laidOut (by kernel_rfl) (of_decide_eq_true (by kernel_rfl)) h0 bel lt0) (trodAll_cons_mk (Below.trod laidOut (by kernel_rfl) (of_decide_eq_true (by kernel_rfl)) h1 bel lt1) (trodAll_cons_mk (Below.trod laidOut (by kernel_rfl) (of_decide_eq_true (by kernel_rfl)) h2 bel lt2) (trodAll_cons_mk (Below.trod laidOut (by kernel_rfl) (of_decide_eq_true (by kernel_rfl)) h3 bel lt3) trodAll_mk0)))), rfl, bel.frame _, fun h => by cases h⟩

theorem stateRises_holds : Rows.StateRisesSaid :=
  OpenClaim.holds_of_wide 3 Try.f3 rfl rfl rfl rfl rfl rfl rfl ⟨rfl, rfl, rfl, rfl, rfl⟩ rfl rfl rfl rfl rfl (by kernel_rfl) Try.func3 (by kernel_rfl)
    (of_decide_eq_true (by kernel_rfl)) (by unfold Func.isWrapper; rw [if_neg (of_decide_eq_false (by kernel_rfl))]; exact ⟨rfl, rfl⟩)
    (fun os started H enc _ => stateRises_lifted os started H enc)

#print axioms stateRises_holds

end Go.Proofs.Ytchnlbanhkigjab
