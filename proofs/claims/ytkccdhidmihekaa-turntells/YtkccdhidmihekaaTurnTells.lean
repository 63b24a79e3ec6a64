/-
  For any text the program tells the last bytes of its turns, in order: TurnTells returns true for every list of bytes, and changes nothing.
-/
import Derived.Test.YtkccdhidmihekaaTd2
import Derived.Test.YtkccdhidmihekaaFs1
namespace Go.Proofs.Ytkccdhidmihekaa
open Go.ChangeShapes Go.WideShapes Go.ChangeAt Go.RowKit Go.Deep

set_option maxHeartbeats 2000000 in
theorem turnTells_walk (x : Wd) (w : World) (hx : Bits w x) (hb : Byt x.l) : Calls Try.prog 3 #[x.v] w fun e w' => e = .returned (.bool true) ∧ Ext w w' := by
  by_cases h : 64 < x.l.length
  · have hp := turn_large x w hx h
    obtain ⟨a, c, l⟩ := x
    simp only [Wd.v] at *
    clear hx hb
    generalize l.length = n at *
    have hn : (n : Int) > 64 := by omega
    go_enter Try.func3, Try.ntmps3
    go_wp2_with fail
    refine hp.mono ?_
    rintro e w1 ⟨rfl, rfl⟩
    clear hp
    go_wp2
    go_ret
    exact ⟨rfl, Ext.refl _⟩
  · have hp := turn_good x w hx (byt_in hb) (by omega)
    have HR : Hid (∀ W, Ext w W → Calls Try.prog 10 #[x.v] W fun e w' => ∃ y : Wd, e = .returned (.tuple #[y.v, .int .i64 (rk x.l 0 : Int)]) ∧ y.l = tl x.l ∧ Bits w' y ∧ Ext W w') := fun W hW => turned_any x W (hx.ext hW) (by omega)
    have HS : Hid (∀ (y z : Wd) W, Bits W y → Bits W z → y.l = z.l → Calls Try.prog 11 #[y.v, z.v] W fun e w' => e = .returned (.bool true) ∧ Qt W w') := fun y z W hy hz he => by
      have := bytes_any y z W hy hz
      rw [he, beq_self_eq_true] at this
      exact this
    obtain ⟨a, c, l⟩ := x
    simp only [Wd.v] at *
    clear hx hb
    generalize tl l = P at *
    generalize rk l 0 = k at *
    generalize l.length = n at *
    have hn : ¬ ((n : Int) > 64) := by omega
    go_enter Try.func3, Try.ntmps3
    go_wp2_with fail
    refine hp.mono ?_
    rintro e w1 ⟨y, rfl, hyg, hy, hE⟩
    have hr := HR.out w1 hE
    have HY : Hid (Bits w1 y ∧ y.l = P ∧ Ext w w1) := ⟨hy, hyg, hE⟩
    clear hp HR hE hyg hy
    go_wp2_with fail
    refine hr.mono ?_
    rintro e w2 ⟨z, rfl, hzg, hz, hE2⟩
    have hs := HS.out y z w2 (HY.out.1.ext hE2) hz (by rw [HY.out.2.1, hzg])
    have E2 : Hid (Ext w w2) := HY.out.2.2.trans hE2
    clear hr hE2 hzg hz HS HY
    go_wp2_with fail
    refine hs.mono ?_
    rintro e w3 ⟨rfl, hw3⟩
    have E3 : Hid (Ext w w3) := E2.out.trans hw3.ext
    clear hs hw3 E2
    go_wp2
    go_ret
    exact ⟨rfl, E3.out⟩

set_option maxRecDepth 100000 in
theorem turnTells_lifted (os : Os) (started : os.Started) (H : Type) (enc : TypeId × Value → H) :
    ReturnsInHanded {} Try.checked os 3 .any (Rows.turnTellsSpec.pre6 enc Try.prog Try.f3 Rows.turnTellsRow.domain false) (Rows.turnTellsSpec.post enc Try.prog Try.f3 false true false false) := by
  refine returnsInHanded_of_change (C := Try.checked) own started (by kernel_rfl) Try.func3
    (ChangeSpec.witness6 (enc := enc) (C := Try.checked) false ⟨#[], #[.slice none 0 0], []⟩ 8 (by kernel_rfl) (by kernel_rfl) (by kernel_rfl) (by kernel_rfl)) ?_
  intro W base args ds gs before hval0 hW _ _
  have hval : ∀ (j : Nat) t v, Try.f3.params[j]? = some t → args[j]? = some v → Value.okWide Try.prog W .any base t v := hval0
  have hW' := hW
  obtain ⟨p, q, hA0, hV, rfl, hfz, hnd⟩ := hW
  have hA : DataW.TrodAll enc Try.prog W 0 (fun _ => true) true Try.f3.params.toList args.toList ds p := hA0
  rw [Try.params3] at hA hval
  obtain ⟨v0, vs0, d0, ds0, p0, q0, hargs, rfl, rfl, h0, r0⟩ := trodAll_cons hA
  obtain ⟨rfl, rfl, rfl⟩ := trodAll_nil r0
  obtain rfl : args = #[v0] := by cases args; simp_all
  obtain ⟨rfl, rfl⟩ := trodVars_none hV
  have lt0 : ∀ x ∈ p0, x.block < W.heap.size := by obtain ⟨m, hm⟩ := h0; exact DataW.trod_lt m _ _ _ hm
  obtain ⟨x0, rfl, w0, y0, z0⟩ := open_word (hval 0 22 v0 rfl rfl) h0
  clear hA0 hval0
  refine (turnTells_walk x0 W w0 y0).mono fun e W' ⟨he, bel⟩ => ?_
  subst he
  exact ⟨_, rfl, _, _, _, [], _, [], hW', trodAll_mk1 (shut_bool Try.underlying4 _), (trodAll_cons_mk (Below.trod laidOut (by kernel_rfl) (of_decide_eq_true (by kernel_rfl)) h0 bel lt0) trodAll_mk0), rfl, bel.frame _, fun h => by cases h⟩

theorem turnTells_holds : Rows.TurnTellsSaid :=
  OpenClaim.holds_of_wide 3 Try.f3 rfl rfl rfl rfl rfl rfl rfl ⟨rfl, rfl, rfl, rfl, rfl⟩ rfl rfl rfl rfl rfl (by kernel_rfl) Try.func3 (by kernel_rfl)
    (of_decide_eq_true (by kernel_rfl)) (by unfold Func.isWrapper; rw [if_neg (of_decide_eq_false (by kernel_rfl))]; exact ⟨rfl, rfl⟩)
    (fun os started H enc _ => turnTells_lifted os started H enc)

#print axioms turnTells_holds

end Go.Proofs.Ytkccdhidmihekaa
