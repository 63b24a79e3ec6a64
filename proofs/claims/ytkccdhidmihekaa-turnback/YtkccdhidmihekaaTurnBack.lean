/-
  For any text: of the last bytes of its turns, and its place, it comes again: TurnBack returns true for every list of bytes, and changes nothing.
-/
import Derived.Test.YtkccdhidmihekaaBk2
import Derived.Test.YtkccdhidmihekaaEq
import Derived.Test.YtkccdhidmihekaaFs1
namespace Go.Proofs.Ytkccdhidmihekaa
open Go.ChangeShapes Go.WideShapes Go.ChangeAt Go.RowKit Go.Deep

theorem fol_self {t Nn : List Int} (hN : Nx (tl t) Nn) : fol (tl t) Nn (rk t 0) = t := by
  rcases Nat.eq_zero_or_pos t.length with h0 | h0
  · have : t = [] := List.eq_nil_of_length_eq_zero h0
    subst this
    exact List.eq_nil_of_length_eq_zero (by rw [fol_length, tl_length]; rfl)
  · exact fol_back h0 hN

set_option maxHeartbeats 2000000 in
theorem turnBack_walk (x : Wd) (w : World) (hx : Bits w x) (hb : Byt x.l) : Calls Try.prog 7 #[x.v] w fun e w' => e = .returned (.bool true) ∧ Ext w w' := by
  by_cases h : 64 < x.l.length
  · have hp := turn_large x w hx h
    obtain ⟨a, c, l⟩ := x
    simp only [Wd.v] at *
    clear hx hb
    generalize l.length = n at *
    have hn : (n : Int) > 64 := by omega
    go_enter Try.func7, Try.ntmps7
    go_wp2_with fail
    refine hp.mono ?_
    rintro e w1 ⟨rfl, rfl⟩
    clear hp
    go_wp2
    go_ret
    exact ⟨rfl, Ext.refl _⟩
  · have hp := turn_good x w hx (byt_in hb) (by omega)
    have HR : Hid (∀ (y : Wd) W, Bits W y → y.l = tl x.l → Calls Try.prog 12 #[y.v, .int .i64 (rk x.l 0 : Int)] W fun e w' => ∃ z : Wd, e = .returned (.tuple #[z.v, .int .i64 0]) ∧ z.l = x.l ∧ Bits w' z ∧ Ext W w') := by
      intro y W hy hyl
      refine (back_in y (rk x.l 0) W hy (by
        rw [hyl]
        intro q hq
        exact byt_in hb q ((tl_perm _).subset hq)) (by rw [hyl, tl_length]; omega) (by
        rw [hyl, tl_length]
        rcases Nat.eq_zero_or_pos x.l.length with h0 | h0
        · have : x.l = [] := List.eq_nil_of_length_eq_zero h0
          exact .inr ⟨h0, by rw [this]; rfl⟩
        · exact .inl (rk_lt h0))).mono ?_
      rintro e w' ⟨hE, Nn, hN, hcase⟩
      rw [hyl] at hN hcase
      have hfs := fol_self hN
      rw [hfs] at hcase
      rcases hcase with ⟨_, z, hz, hzl, rfl⟩ | ⟨hno, _⟩
      · exact ⟨z, rfl, hzl, hz, hE⟩
      · exact absurd ⟨rfl, rfl⟩ hno
    have HS : Hid (∀ (y : Wd) W, Ext w W → Bits W y → y.l = x.l → Calls Try.prog 11 #[y.v, x.v] W fun e w' => e = .returned (.bool true) ∧ Qt W w') := fun y W hW hy he => by
      have := bytes_any y x W hy (hx.ext hW)
      rw [he, beq_self_eq_true] at this
      exact this
    obtain ⟨a, c, l⟩ := x
    simp only [Wd.v] at *
    clear hx hb
    generalize tl l = P at *
    generalize rk l 0 = k at *
    generalize l.length = n at *
    have hn : ¬ ((n : Int) > 64) := by omega
    go_enter Try.func7, Try.ntmps7
    go_wp2_with fail
    refine hp.mono ?_
    rintro e w1 ⟨y, rfl, hyg, hy, hE⟩
    have hr := HR.out y w1 hy hyg
    have HE : Hid (Ext w w1) := hE
    clear hp HR hE hyg hy
    go_wp2_with fail
    refine hr.mono ?_
    rintro e w2 ⟨z, rfl, hzg, hz, hE2⟩
    have hs := HS.out z w2 (HE.out.trans hE2) hz hzg
    have E2 : Hid (Ext w w2) := HE.out.trans hE2
    clear hr hE2 hzg hz HS HE
    go_wp2_with fail
    refine hs.mono ?_
    rintro e w3 ⟨rfl, hw3⟩
    have E3 : Hid (Ext w w3) := E2.out.trans hw3.ext
    clear hs hw3 E2
    go_wp2
    go_ret
    exact ⟨rfl, E3.out⟩

set_option maxRecDepth 100000 in
theorem turnBack_lifted (os : Os) (started : os.Started) (H : Type) (enc : TypeId × Value → H) :
    ReturnsInHanded {} Try.checked os 7 .any (Rows.turnBackSpec.pre6 enc Try.prog Try.f7 Rows.turnBackRow.domain false) (Rows.turnBackSpec.post enc Try.prog Try.f7 false true false false) := by
  refine returnsInHanded_of_change (C := Try.checked) own started (by kernel_rfl) Try.func7
    (ChangeSpec.witness6 (enc := enc) (C := Try.checked) false ⟨#[], #[.slice none 0 0], []⟩ 8 (by kernel_rfl) (by kernel_rfl) (by kernel_rfl) (by kernel_rfl)) ?_
  intro W base args ds gs before hval0 hW _ _
  have hval : ∀ (j : Nat) t v, Try.f7.params[j]? = some t → args[j]? = some v → Value.okWide Try.prog W .any base t v := hval0
  have hW' := hW
  obtain ⟨p, q, hA0, hV, rfl, hfz, hnd⟩ := hW
  have hA : DataW.TrodAll enc Try.prog W 0 (fun _ => true) true Try.f7.params.toList args.toList ds p := hA0
  rw [Try.params7] at hA hval
  obtain ⟨v0, vs0, d0, ds0, p0, q0, hargs, rfl, rfl, h0, r0⟩ := trodAll_cons hA
  obtain ⟨rfl, rfl, rfl⟩ := trodAll_nil r0
  obtain rfl : args = #[v0] := by cases args; simp_all
  obtain ⟨rfl, rfl⟩ := trodVars_none hV
  have lt0 : ∀ x ∈ p0, x.block < W.heap.size := by obtain ⟨m, hm⟩ := h0; exact DataW.trod_lt m _ _ _ hm
  obtain ⟨x0, rfl, w0, y0, z0⟩ := open_word (hval 0 22 v0 rfl rfl) h0
  clear hA0 hval0
  refine (turnBack_walk x0 W w0 y0).mono fun e W' ⟨he, bel⟩ => ?_
  subst he
  exact ⟨_, rfl, _, _, _, [], _, [], hW', trodAll_mk1 (shut_bool Try.underlying4 _), (trodAll_cons_mk (Below.trod laidOut (by kernel_rfl) (of_decide_eq_true (by kernel_rfl)) h0 bel lt0) trodAll_mk0), rfl, bel.frame _, fun h => by cases h⟩

theorem turnBack_holds : Rows.TurnBackSaid :=
  OpenClaim.holds_of_wide 7 Try.f7 rfl rfl rfl rfl rfl rfl rfl ⟨rfl, rfl, rfl, rfl, rfl⟩ rfl rfl rfl rfl rfl (by kernel_rfl) Try.func7 (by kernel_rfl)
    (of_decide_eq_true (by kernel_rfl)) (by unfold Func.isWrapper; rw [if_neg (of_decide_eq_false (by kernel_rfl))]; exact ⟨rfl, rfl⟩)
    (fun os started H enc _ => turnBack_lifted os started H enc)

#print axioms turnBack_holds

end Go.Proofs.Ytkccdhidmihekaa
