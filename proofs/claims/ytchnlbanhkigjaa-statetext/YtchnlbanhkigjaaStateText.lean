/-
  For any parts and any symbols: what was written is read: StateText returns true for every list of parts and every list of symbols, and changes nothing.
-/
import Derived.Test.YtchnlbanhkigjaaOpen
import Derived.Test.YtchnlbanhkigjaaNum
import Derived.Test.YtchnlbanhkigjaaWr
import Derived.Test.YtchnlbanhkigjaaRd
namespace Go.Proofs.Ytchnlbanhkigjaa
open Go.ChangeShapes Go.WideShapes Go.ChangeAt Go.RowKit Go.Deep
set_option linter.unusedVariables false

theorem pxe_zero (z : List Int) : pxe z 0 = per z := by
  unfold pxe
  by_cases h : per z = 0
  · rw [if_pos h, if_pos ⟨by decide, by decide⟩, h]
  · rw [if_neg h]

theorem stateText_walk (p l : Nm) (w : World) (hp : Nums w p) (hl : Nums w l) : Calls Try.prog 8 #[p.v, l.v] w fun e w' => e = .returned (.bool true) ∧ Ext w w' := by
  have c1 := swrite_any p l w hp hl
  have c2 : Hid (∀ W, Ext w W → Calls Try.prog 17 #[p.v, .int .i64 0] W fun e w' => e = .returned (.bool (per p.z == 0)) ∧ w' = W) := fun W e => by
    have := parted_any p 0 W (hp.ext e)
    rw [pxe_zero] at this
    exact this
  have hlen : l.z.length ≤ maxLen := by have := hl.1; have := hl.2.1; omega
  unfold maxLen at hlen
  by_cases h : per p.z = 0
  · rw [h] at c2
    by_cases h0 : wre p.z l.z = 0
    · have hw := h0
      unfold wre at hw
      rw [if_pos h] at hw
      have h64 : l.z.length ≤ 64 := by
        rcases Nat.lt_or_ge 64 l.z.length with h' | h'
        · rw [if_neg (by omega)] at hw
          exact absurd hw (by decide)
        · exact h'
      rw [if_pos h64] at hw
      have e2 : wrv p.z l.z = (wt (nt p.z) l.z).1 := if_pos h0
      rw [h0, e2] at c1
      obtain ⟨b, o, g⟩ := good_parts hp h
      obtain ⟨t1, t2⟩ := text_back (nt p.z) l.z hw
      have few := wt_few (nt p.z) l.z
      have hpx : pxe p.z ((wt (nt p.z) l.z).1 : Nat) = 0 := pxe_good h (by omega) (by omega)
      have c3 : Hid (∀ W, Ext w W → Calls Try.prog 15 #[p.v, .int .i64 ((wt (nt p.z) l.z).1 : Nat), .int .i64 l.z.length] W fun e w' => ∃ y : Nm, e = .returned (.tuple #[y.v, .int .i64 0]) ∧ y.z = l.z ∧ Nums w' y ∧ Ext W w') := fun W e => by
        have k1 := checkBoth_any p ((wt (nt p.z) l.z).1 : Nat) W (hp.ext e)
        rw [pxv_good hpx, hpx, g.sum, g.v] at k1
        rw [g.v]
        refine (sread_good b o _ p.c (nt p.z) (wt (nt p.z) l.z).1 l.z.length W rfl g.few g.one g.most (g.pa.ext e) few h64 k1).mono ?_
        rintro e2 w2 (⟨rfl, _, hr, he⟩ | ⟨_, hne, _⟩)
        · rw [t1] at hr
          exact ⟨⟨some ⟨W.heap.size, 0, none⟩, l.z.length, l.z⟩, rfl, rfl, Row.nums hr (by unfold maxLen; omega), he⟩
        · exact absurd t2 hne
      have c4 : Hid (∀ (y : Nm) W, Ext w W → y.z = l.z → Nums W y → Calls Try.prog 16 #[y.v, l.v] W fun e w' => e = .returned (.bool true) ∧ Qt W w') := fun y W e hy ny => by
        have := ints_any y l W ny (hl.ext e)
        rw [hy, beq_self_eq_true] at this
        exact this
      obtain ⟨a, n, c, hv⟩ : ∃ a n c, p.v = .slice a n c := ⟨_, _, _, rfl⟩
      obtain ⟨a2, c2', hv2⟩ : ∃ a c, l.v = .slice a l.z.length c := ⟨_, _, rfl⟩
      rw [hv] at c1 c2 c3 ⊢
      rw [hv2] at c1 c4 ⊢
      generalize (wt (nt p.z) l.z).1 = V at *
      clear h hp hl hv hv2 g e2 h0 hw t1 t2 hpx
      generalize l.z = lz at *
      go_enter Try.func8, Try.ntmps8
      go_wp2_with fail
      refine c1.mono ?_
      rintro e w1 ⟨rfl, hq⟩
      have E1 : Hid (Ext w w1) := hq.ext
      clear c1 hq
      go_wp2_with fail
      refine (c2.out w1 E1.out).mono ?_
      rintro e w2 ⟨rfl, rfl⟩
      clear c2
      go_wp2_with fail
      refine (c3.out w2 E1.out).mono ?_
      rintro e w3 ⟨y, rfl, hy, ny, hq⟩
      have E3 : Hid (Ext w w3) := E1.out.trans hq
      have c5 := c4.out y w3 E3.out hy ny
      clear c3 hq c4 hy ny
      obtain ⟨a3, n3, c3, hv3⟩ : ∃ a n c, y.v = .slice a n c := ⟨_, _, _, rfl⟩
      rw [hv3] at c5 ⊢
      clear hv3
      go_wp2_with fail
      refine c5.mono ?_
      rintro e w4 ⟨rfl, hq⟩
      have E4 : Hid (Ext w w4) := E3.out.trans hq.ext
      clear c5 hq
      go_wp2
      go_ret
      exact ⟨ret_bool (by simp), E4.out⟩
    · have e2 : wrv p.z l.z = 0 := if_neg h0
      rw [e2] at c1
      have hE2 : (wre p.z l.z != 0) = true := by rw [bne_iff_ne]; exact h0
      obtain ⟨a, n, c, hv⟩ : ∃ a n c, p.v = .slice a n c := ⟨_, _, _, rfl⟩
      obtain ⟨a2, n2, c2', hv2⟩ : ∃ a n c, l.v = .slice a n c := ⟨_, _, _, rfl⟩
      rw [hv] at c1 c2 ⊢
      rw [hv2] at c1 ⊢
      generalize wre p.z l.z = E at *
      clear h hp hl hv hv2 e2 h0 hlen
      go_enter Try.func8, Try.ntmps8
      go_wp2_with fail
      refine c1.mono ?_
      rintro e w1 ⟨rfl, hq⟩
      have E1 : Hid (Ext w w1) := hq.ext
      clear c1 hq
      go_wp2_with fail
      refine (c2.out w1 E1.out).mono ?_
      rintro e w2 ⟨rfl, rfl⟩
      clear c2
      go_wp2
      go_ret
      exact ⟨ret_bool (by simp), E1.out⟩
  · have e1 : wre p.z l.z = per p.z := if_neg h
    have hE : (per p.z == 0) = false := by rw [beq_eq_false_iff_ne]; exact h
    have hE2 : (per p.z != 0) = true := by rw [bne_iff_ne]; exact h
    rw [e1] at c1
    rw [hE] at c2
    obtain ⟨a, n, c, hv⟩ : ∃ a n c, p.v = .slice a n c := ⟨_, _, _, rfl⟩
    obtain ⟨a2, n2, c2', hv2⟩ : ∃ a n c, l.v = .slice a n c := ⟨_, _, _, rfl⟩
    rw [hv] at c1 c2 ⊢
    rw [hv2] at c1 ⊢
    generalize per p.z = E at *
    generalize wrv p.z l.z = V at *
    clear h hp hl hv hv2 hlen e1
    go_enter Try.func8, Try.ntmps8
    go_wp2_with fail
    refine c1.mono ?_
    rintro e w1 ⟨rfl, hq⟩
    have E1 : Hid (Ext w w1) := hq.ext
    clear c1 hq
    go_wp2_with fail
    refine (c2.out w1 E1.out).mono ?_
    rintro e w2 ⟨rfl, rfl⟩
    clear c2
    go_wp2
    go_ret
    exact ⟨ret_bool (by simp), E1.out⟩

set_option maxRecDepth 100000 in
theorem stateText_lifted (os : Os) (started : os.Started) (H : Type) (enc : TypeId × Value → H) :
    ReturnsInHanded {} Try.checked os 8 .any (Rows.stateTextSpec.pre6 enc Try.prog Try.f8 Rows.stateTextRow.domain false) (Rows.stateTextSpec.post enc Try.prog Try.f8 false true false false) := by
  refine returnsInHanded_of_change (C := Try.checked) own started (by kernel_rfl) Try.func8
    (ChangeSpec.witness6 (enc := enc) (C := Try.checked) false ⟨#[], #[.slice none 0 0, .slice none 0 0], []⟩ 8 (by kernel_rfl) (by kernel_rfl) (by kernel_rfl) (by kernel_rfl)) ?_
  intro W base args ds gs before hval0 hW _ _
  have hval : ∀ (j : Nat) t v, Try.f8.params[j]? = some t → args[j]? = some v → Value.okWide Try.prog W .any base t v := hval0
  have hW' := hW
  obtain ⟨p, q, hA0, hV, rfl, hfz, hnd⟩ := hW
  have hA : DataW.TrodAll enc Try.prog W 0 (fun _ => true) true Try.f8.params.toList args.toList ds p := hA0
  rw [Try.params8] at hA hval
  obtain ⟨v0, vs0, d0, ds0, p0, q0, hargs, rfl, rfl, h0, r0⟩ := trodAll_cons hA
  obtain ⟨v1, vs1, d1, ds1, p1, q1, rfl, rfl, rfl, h1, r1⟩ := trodAll_cons r0
  obtain ⟨rfl, rfl, rfl⟩ := trodAll_nil r1
  obtain rfl : args = #[v0, v1] := by cases args; simp_all
  obtain ⟨rfl, rfl⟩ := trodVars_none hV
  have lt0 : ∀ x ∈ p0, x.block < W.heap.size := by obtain ⟨m, hm⟩ := h0; exact DataW.trod_lt m _ _ _ hm
  obtain ⟨x0, rfl, w0⟩ := open_syms (hval 0 22 v0 rfl rfl) h0
  have lt1 : ∀ x ∈ p1, x.block < W.heap.size := by obtain ⟨m, hm⟩ := h1; exact DataW.trod_lt m _ _ _ hm
  obtain ⟨x1, rfl, w1⟩ := open_syms (hval 1 22 v1 rfl rfl) h1
  clear hA0 hval0
  refine (stateText_walk x0 x1 W w0 w1).mono fun e W' ⟨he, bel⟩ => ?_
  subst he
  exact ⟨_, rfl, _, _, _, [], _, [], hW', trodAll_mk1 (shut_bool Try.underlying4 _), (trodAll_cons_mk (Below.trod laidOut (by kernel_rfl) (of_decide_eq_true (by kernel_rfl)) h0 bel lt0) (trodAll_cons_mk (Below.trod laidOut (by kernel_rfl) (of_decide_eq_true (by kernel_rfl)) h1 bel lt1) trodAll_mk0)), rfl, bel.frame _, fun h => by cases h⟩

theorem stateText_holds : Rows.StateTextSaid :=
  OpenClaim.holds_of_wide 8 Try.f8 rfl rfl rfl rfl rfl rfl rfl ⟨rfl, rfl, rfl, rfl, rfl⟩ rfl rfl rfl rfl rfl (by kernel_rfl) Try.func8 (by kernel_rfl)
    (of_decide_eq_true (by kernel_rfl)) (by unfold Func.isWrapper; rw [if_neg (of_decide_eq_false (by kernel_rfl))]; exact ⟨rfl, rfl⟩)
    (fun os started H enc _ => stateText_lifted os started H enc)

#print axioms stateText_holds

end Go.Proofs.Ytchnlbanhkigjaa
