/-
  For any list: rank.Order tells which one it is of all such lists: RankOrders returns true for every list of numbers, and changes nothing.
-/
import Derived.Test.YtencpkmojjbjcaaOpen
import Derived.Test.YtencpkmojjbjcaaNum
import Derived.Test.YtencpkmojjbjcaaOnc
import Derived.Test.YtencpkmojjbjcaaNxt
namespace Go.Proofs.Ytencpkmojjbjcaa
open Go.ChangeShapes Go.WideShapes Go.ChangeAt Go.RowKit Go.Deep
set_option linter.unusedVariables false

theorem rankOrders_walk (x : Nm) (w : World) (hx : Nums w x) : Calls Try.prog 6 #[x.v] w fun e w' => e = .returned (.bool true) ∧ Ext w w' := by
  have NX := hx
  obtain ⟨h1, h2, h0, b, o, h3, h4⟩ := hx
  obtain ⟨n, hn⟩ : ∃ n, x.z.length = n := ⟨_, rfl⟩
  have hv : x.v = .slice x.a n x.c := by rw [← hn]
  rw [hn] at h1 h3 h4
  have hat : At w b o x.z := fun i hi => h4 i (by omega)
  rw [hv]
  by_cases h8 : n ≤ 8
  · by_cases hE : Each x.z
    · have c1 := order_good x.a b o n x.c x.z w hn h8 h1 h2 h3 hat hE
      have c2 := once_any x.a b o n x.c x.z w hn h8 h1 h2 h3 hat
      have c3 := first_any n h8 w
      have C4 : Hid (∀ (y : Nm) W, Nums W y → Ext w W → Calls Try.prog 20 #[y.v, .slice x.a n x.c] W fun e w' => e = .returned (.bool (y.z == x.z)) ∧ Qt W w') := fun y W hy e => by
        rw [← hv]
        exact ints_any y x W hy (NX.ext e)
      have C5 : Hid (∀ (y : Nm) W, Nums W y → y.z.Perm x.z → Calls Try.prog 21 #[y.v] W (NextP W y.z)) := fun y W hy hp => next_any y n W hy (by rw [hp.length_eq, hn]) h8 (hE.perm hp)
      have EQ : Hid (∀ m : List Int, m.Perm x.z → od m = od x.z → m = x.z) := fun m hp ho => od_inj m x.z hp ho
      have LT : Hid (∀ m : List Int, m.Perm x.z → od m + 1 = fc m.length → od m = od x.z → m = x.z) := fun m hp _ ho => od_inj m x.z hp ho
      have TOP : Hid (od x.z < fc n) := by rw [← hn]; exact od_lt x.z
      have LEN : Hid (∀ m : List Int, m.Perm x.z → m.length = n) := fun m hp => by rw [hp.length_eq, hn]
      have P0 : Hid ((frst n).Perm x.z) := by
        have : x.z.Perm (frst x.z.length) := hE
        rw [hn] at this
        exact this.symm
      have Z0 : Hid (od (frst n) = 0) := od_up _ (frst_up n)
      have hEd : Hid (Each x.z) := hE
      have few : od x.z ≤ 40320 := by
        have := od_lt x.z
        have := fc_few' (n := x.z.length) (by omega)
        omega
      unfold maxLen at h2
      obtain ⟨z, hz⟩ : ∃ z, x.z = z := ⟨_, rfl⟩
      rw [hz] at c1 c2 C4 C5 EQ LT TOP LEN P0 hEd few
      generalize x.a = xa at *
      generalize x.c = xc at *
      clear hz hv hat h3 h4 hE NX h0 hn
      obtain ⟨R, hR⟩ : ∃ R, od z = R := ⟨_, rfl⟩
      rw [hR] at c1 EQ LT TOP few
      have HR : Hid (od z = R) := hR
      clear hR LT
      go_enter Try.func6, Try.ntmps6
      go_wp2_with fail
      refine c1.mono ?_
      rintro e w1 ⟨rfl, rfl⟩
      clear c1
      go_wp2_with fail
      refine c2.mono ?_
      rintro e w2 ⟨⟨r, rfl, hr⟩, rfl⟩
      clear c2
      obtain rfl : r = true := hr.2 hEd.out
      clear hr hEd
      go_wp2_with fail
      refine c3.mono ?_
      rintro e w3 ⟨v, rfl, hO⟩
      obtain ⟨y0, rfl, hy0, hN0⟩ := hO.nums
      have E3 : Hid (Ext w2 w3) := hO.1
      have N3 : Hid (Nums w3 y0) := hN0
      have P3 : Hid (y0.z.Perm z ∧ od y0.z = 0) := by rw [hy0]; exact ⟨P0.out, Z0.out⟩
      clear c3 hO hy0 hN0 P0 Z0
      go_wp2
      go_loopg [5, 6] R (fun gg s5 s6 wr => ∃ (y : Nm) (k : Nat), k ≤ R ∧ R - k ≤ gg ∧ s5 = y.v ∧ s6 = .int .i64 k ∧ Aside (Ext w2 wr) ∧ Aside (Nums wr y) ∧ Aside (y.z.Perm z ∧ od y.z = k))
      case atStart => exact ⟨y0, 0, Nat.zero_le _, by omega, rfl, rfl, E3.out, N3.out, P3.out⟩
      case round =>
        obtain ⟨y, k, hk, hgg, rfl, rfl, EW, NW, PW⟩ := hrel
        clear E3 N3 P3
        have c4 := C4.out y wr NW.out EW.out
        by_cases heq : y.z = z
        · have hkR : k = R := by rw [← PW.out.2, heq, HR.out]
          rw [show (y.z == z) = true by rw [heq]; exact beq_self_eq_true z] at c4
          subst hkR
          clear heq C4 C5 EQ TOP LEN HR PW NW
          generalize y.v = yv at *
          go_wp2_with fail
          refine c4.mono ?_
          rintro e w5 ⟨rfl, hq⟩
          have E5 : Hid (Ext w2 w5) := EW.out.trans hq.ext
          clear c4 hq
          go_wp2
          go_ret
          exact ⟨ret_bool (by simp), E5.out⟩
        · have hkR : k < R := by
            rcases Nat.lt_or_ge k R with l | l
            · exact l
            · exact absurd (EQ.out y.z PW.out.1 (by rw [PW.out.2]; omega)) heq
          rw [show (y.z == z) = false by rw [beq_eq_false_iff_ne]; exact heq] at c4
          have c5 : Hid (∀ W, Ext wr W → Calls Try.prog 21 #[y.v] W (NextP W y.z)) := fun W e => C5.out y W (NW.out.ext e) PW.out.1
          have FL : Hid (¬ od y.z + 1 = fc y.z.length) := by
            have h := TOP.out
            have h2 := LEN.out y.z PW.out.1
            have h3 := PW.out.2
            intro h4
            rw [h2] at h4
            omega
          have NP : Hid (∀ m : List Int, m.Perm y.z → od m = od y.z + 1 → m.Perm z ∧ od m = k + 1) := fun m h1 h2 => ⟨h1.trans PW.out.1, by rw [h2, PW.out.2]⟩
          clear heq C4 C5 EQ TOP LEN HR PW NW
          generalize hyv : y.v = yv at *
          generalize y.z = yz at *
          clear hyv
          go_wp2_with fail
          refine c4.mono ?_
          rintro e w5 ⟨rfl, hq⟩
          have E5 : Hid (Ext wr w5) := hq.ext
          clear c4 hq
          go_wp2_with fail
          refine (c5.out w5 E5.out).mono ?_
          rintro e w6 (⟨v, m, rfl, hO, hp, ho⟩ | ⟨_, _, hf⟩)
          · obtain ⟨y6, rfl, hy6, hN6⟩ := hO.nums
            have E6 : Hid (Ext w2 w6) := (EW.out.trans E5.out).trans hO.1
            have N6 : Hid (Nums w6 y6) := hN6
            have P6 : Hid (y6.z.Perm z ∧ od y6.z = k + 1) := by rw [hy6]; exact NP.out m hp ho
            clear c5 hO hy6 hN6 hp ho NP FL
            go_wp2
            go_roundg (R - (k + 1))
            case measure => omega
            case rel => exact ⟨y6, k + 1, by omega, by omega, rfl, by go_num, E6.out, N6.out, P6.out⟩
          · exact absurd hf FL.out
    · have c1 := order_none x.a b o n x.c x.z w hn h8 h3 hat hE
      have c2 := once_any x.a b o n x.c x.z w hn h8 h1 h2 h3 hat
      unfold maxLen at h2
      generalize x.a = xa at *
      generalize x.c = xc at *
      have hEd : Hid (¬ Each x.z) := hE
      clear hv hat h3 h4 hE NX h0
      go_enter Try.func6, Try.ntmps6
      go_wp2_with fail
      refine c1.mono ?_
      rintro e w1 ⟨rfl, rfl⟩
      clear c1
      go_wp2_with fail
      refine c2.mono ?_
      rintro e w2 ⟨⟨r, rfl, hr⟩, rfl⟩
      clear c2
      have hrf : r = false := by
        cases r
        · rfl
        · exact absurd (hr.1 rfl) hEd.out
      subst hrf
      clear hr hEd
      go_wp2
      go_ret
      exact ⟨rfl, Ext.refl _⟩
  · have c1 := order_large x.a n x.c w (by unfold maxLen at *; omega) (by omega)
    unfold maxLen at h2
    generalize x.a = xa at *
    generalize x.c = xc at *
    clear hv hat h3 h4 NX h0
    go_enter Try.func6, Try.ntmps6
    go_wp2_with fail
    refine c1.mono ?_
    rintro e w1 ⟨rfl, rfl⟩
    clear c1
    go_wp2
    go_ret
    exact ⟨rfl, Ext.refl _⟩

set_option maxRecDepth 100000 in
theorem rankOrders_lifted (os : Os) (started : os.Started) (H : Type) (enc : TypeId × Value → H) :
    ReturnsInHanded {} Try.checked os 6 .any (Rows.rankOrdersSpec.pre6 enc Try.prog Try.f6 Rows.rankOrdersRow.domain false) (Rows.rankOrdersSpec.post enc Try.prog Try.f6 false true false false) := by
  refine returnsInHanded_of_change (C := Try.checked) own started (by kernel_rfl) Try.func6
    (ChangeSpec.witness6 (enc := enc) (C := Try.checked) false ⟨#[], #[.slice none 0 0], []⟩ 8 (by kernel_rfl) (by kernel_rfl) (by kernel_rfl) (by kernel_rfl)) ?_
  intro W base args ds gs before hval0 hW _ _
  have hval : ∀ (j : Nat) t v, Try.f6.params[j]? = some t → args[j]? = some v → Value.okWide Try.prog W .any base t v := hval0
  have hW' := hW
  obtain ⟨p, q, hA0, hV, rfl, hfz, hnd⟩ := hW
  have hA : DataW.TrodAll enc Try.prog W 0 (fun _ => true) true Try.f6.params.toList args.toList ds p := hA0
  rw [Try.params6] at hA hval
  obtain ⟨v0, vs0, d0, ds0, p0, q0, hargs, rfl, rfl, h0, r0⟩ := trodAll_cons hA
  obtain ⟨rfl, rfl, rfl⟩ := trodAll_nil r0
  obtain rfl : args = #[v0] := by cases args; simp_all
  obtain ⟨rfl, rfl⟩ := trodVars_none hV
  have lt0 : ∀ x ∈ p0, x.block < W.heap.size := by obtain ⟨m, hm⟩ := h0; exact DataW.trod_lt m _ _ _ hm
  obtain ⟨x0, rfl, w0⟩ := open_syms (hval 0 38 v0 rfl rfl) h0
  clear hA0 hval0
  refine (rankOrders_walk x0 W w0).mono fun e W' ⟨he, bel⟩ => ?_
  subst he
  exact ⟨_, rfl, _, _, _, [], _, [], hW', trodAll_mk1 (shut_bool Try.underlying4 _), (trodAll_cons_mk (Below.trod laidOut (by kernel_rfl) (of_decide_eq_true (by kernel_rfl)) h0 bel lt0) trodAll_mk0), rfl, bel.frame _, fun h => by cases h⟩

theorem rankOrders_holds : Rows.RankOrdersSaid :=
  OpenClaim.holds_of_wide 6 Try.f6 rfl rfl rfl rfl rfl rfl rfl ⟨rfl, rfl, rfl, rfl, rfl⟩ rfl rfl rfl rfl rfl (by kernel_rfl) Try.func6 (by kernel_rfl)
    (of_decide_eq_true (by kernel_rfl)) (by unfold Func.isWrapper; rw [if_neg (of_decide_eq_false (by kernel_rfl))]; exact ⟨rfl, rfl⟩)
    (fun os started H enc _ => rankOrders_lifted os started H enc)

#print axioms rankOrders_holds

end Go.Proofs.Ytencpkmojjbjcaa
