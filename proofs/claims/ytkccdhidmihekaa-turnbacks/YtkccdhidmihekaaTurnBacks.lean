/-
  For any bytes and any place the program tells the text whose turns end so, or that there is none: TurnBacks returns true for every list of bytes and every number, and changes nothing.
-/
import Derived.Test.YtkccdhidmihekaaUn3
import Derived.Test.YtkccdhidmihekaaFs1
namespace Go.Proofs.Ytkccdhidmihekaa
open Go.ChangeShapes Go.WideShapes Go.ChangeAt Go.RowKit Go.Deep

set_option maxHeartbeats 2000000 in
theorem turnBacks_large (x : Wd) (q : Int) (w : World) (hx : Bits w x) (h : 64 < x.l.length) : Calls Try.prog 4 #[x.v, .int .i64 q] w fun e w' => e = .returned (.bool true) ∧ Ext w w' := by
  have hp := back_large x q w hx h
  obtain ⟨a, c, l⟩ := x
  simp only [Wd.v] at *
  clear hx
  generalize l.length = n at *
  have hn : (n : Int) > 64 := by omega
  go_enter Try.func4, Try.ntmps4
  go_wp2_with fail
  refine hp.mono ?_
  rintro e w1 ⟨rfl, rfl⟩
  clear hp
  go_wp2
  go_ret
  exact ⟨rfl, Ext.refl _⟩

set_option maxHeartbeats 2000000 in
theorem turnBacks_no (x : Wd) (q : Int) (w : World) (h : x.l.length ≤ 64)
    (hb : Calls Try.prog 12 #[x.v, .int .i64 q] w fun e w' => e = .returned (.tuple #[.slice none 0 0, .int .i64 5]) ∧ Ext w w')
    (hu : ∀ W, Ext w W → Calls Try.prog 13 #[x.v, .int .i64 q] W fun e w' => ∃ m : Wd, e = .returned (.tuple #[m.v, .bool false]) ∧ Ext W w') :
    Calls Try.prog 4 #[x.v, .int .i64 q] w fun e w' => e = .returned (.bool true) ∧ Ext w w' := by
  have HU : Hid (∀ W, Ext w W → Calls Try.prog 13 #[x.v, .int .i64 q] W fun e w' => ∃ m : Wd, e = .returned (.tuple #[m.v, .bool false]) ∧ Ext W w') := hu
  clear hu
  obtain ⟨a, c, l⟩ := x
  simp only [Wd.v] at *
  generalize l.length = n at *
  have hn : ¬ (n : Int) > 64 := by omega
  go_enter Try.func4, Try.ntmps4
  go_wp2_with fail
  refine hb.mono ?_
  rintro e w1 ⟨rfl, E1⟩
  have hr := HU.out w1 E1
  have HE : Hid (Ext w w1) := E1
  clear hb HU E1
  go_wp2_with fail
  refine hr.mono ?_
  rintro e w2 ⟨m, rfl, E2⟩
  have HE2 : Hid (Ext w w2) := HE.out.trans E2
  clear hr E2 HE
  go_wp2
  go_ret
  exact ⟨rfl, HE2.out⟩

set_option maxHeartbeats 2000000 in
theorem turnBacks_yes (x : Wd) (q : Int) (w : World) (h : x.l.length ≤ 64) (R : List Int)
    (hb : Calls Try.prog 12 #[x.v, .int .i64 q] w fun e w' => ∃ t : Wd, e = .returned (.tuple #[t.v, .int .i64 0]) ∧ t.l = R ∧ Bits w' t ∧ Ext w w')
    (hu : ∀ W, Ext w W → Calls Try.prog 13 #[x.v, .int .i64 q] W fun e w' => ∃ m : Wd, e = .returned (.tuple #[m.v, .bool true]) ∧ m.l = R ∧ Bits w' m ∧ Ext W w') :
    Calls Try.prog 4 #[x.v, .int .i64 q] w fun e w' => e = .returned (.bool true) ∧ Ext w w' := by
  have HU : Hid (∀ W, Ext w W → Calls Try.prog 13 #[x.v, .int .i64 q] W fun e w' => ∃ m : Wd, e = .returned (.tuple #[m.v, .bool true]) ∧ m.l = R ∧ Bits w' m ∧ Ext W w') := hu
  have HS : Hid (∀ (y z : Wd) W, Bits W y → Bits W z → y.l = z.l → Calls Try.prog 11 #[y.v, z.v] W fun e w' => e = .returned (.bool true) ∧ Qt W w') := fun y z W hy hz he => by
    have := bytes_any y z W hy hz
    rw [he, beq_self_eq_true] at this
    exact this
  clear hu
  obtain ⟨a, c, l⟩ := x
  simp only [Wd.v] at *
  generalize l.length = n at *
  have hn : ¬ (n : Int) > 64 := by omega
  go_enter Try.func4, Try.ntmps4
  go_wp2_with fail
  refine hb.mono ?_
  rintro e w1 ⟨t, rfl, htl, ht, E1⟩
  have hr := HU.out w1 E1
  have HE : Hid (Ext w w1 ∧ Bits w1 t ∧ t.l = R) := ⟨E1, ht, htl⟩
  clear hb HU E1 ht htl
  go_wp2_with fail
  refine hr.mono ?_
  rintro e w2 ⟨m, rfl, hml, hm, E2⟩
  have hs := HS.out t m w2 (HE.out.2.1.ext E2) hm (by rw [HE.out.2.2, hml])
  have HE2 : Hid (Ext w w2) := HE.out.1.trans E2
  clear hr E2 HE HS hm hml
  go_wp2_with fail
  refine hs.mono ?_
  rintro e w3 ⟨rfl, hw3⟩
  have E3 : Hid (Ext w w3) := HE2.out.trans hw3.ext
  clear hs hw3 HE2
  go_wp2
  go_ret
  exact ⟨rfl, E3.out⟩

theorem turnBacks_walk (x : Wd) (q : Int) (w : World) (hx : Bits w x) (hb : Byt x.l) : Calls Try.prog 4 #[x.v, .int .i64 q] w fun e w' => e = .returned (.bool true) ∧ Ext w w' := by
  by_cases h : 64 < x.l.length
  · exact turnBacks_large x q w hx h
  have h64 : x.l.length ≤ 64 := by omega
  have hin := byt_in hb
  rcases Nat.eq_zero_or_pos x.l.length with h0 | h0
  · have hl : x.l = [] := List.eq_nil_of_length_eq_zero h0
    by_cases hq : q = 0
    · subst hq
      refine turnBacks_yes x 0 w h64 [] ?_ (fun W hW => ?_)
      · refine (back_in x 0 w hx hin h64 (.inr ⟨h0, rfl⟩)).mono ?_
        rintro e w' ⟨hE, Nn, hN, hcase⟩
        have hf : fol x.l Nn 0 = [] := List.eq_nil_of_length_eq_zero (by rw [fol_length, h0])
        rw [hf] at hcase
        rcases hcase with ⟨_, y, hy, hyl, rfl⟩ | ⟨hno, _⟩
        · exact ⟨y, rfl, hyl, hy, hE⟩
        · exact absurd ⟨by rw [hl]; exact tl_nil, rfl⟩ hno
      · refine (unturned_none x 0 W h0).mono ?_
        rintro e w' ⟨rfl, rfl⟩
        exact ⟨⟨none, 0, []⟩, rfl, rfl, ⟨by simp, by simp, by simp, 0, 0, by simp, by simp⟩, Ext.refl _⟩
    · refine turnBacks_no x q w h64 ?_ (fun W hW => ?_)
      · refine (back_range x q w h64 (by omega)).mono ?_
        rintro e w' ⟨rfl, rfl⟩
        exact ⟨rfl, Ext.refl _⟩
      · refine (unturned_none x q W h0).mono ?_
        rintro e w' ⟨rfl, rfl⟩
        refine ⟨⟨none, 0, []⟩, ?_, Ext.refl _⟩
        have : (q == 0) = false := by simp [hq]
        rw [this]
        rfl
  · by_cases hq : q < 0 ∨ q ≥ x.l.length
    · refine turnBacks_no x q w h64 ?_ (fun W hW => ?_)
      · refine (back_range x q w h64 (by omega)).mono ?_
        rintro e w' ⟨rfl, rfl⟩
        exact ⟨rfl, Ext.refl _⟩
      · refine (unturned_range x q W h0 h64 hq).mono ?_
        rintro e w' ⟨rfl, rfl⟩
        exact ⟨⟨none, 0, []⟩, rfl, Ext.refl _⟩
    · obtain ⟨k, rfl⟩ := Int.eq_ofNat_of_zero_le (show 0 ≤ q by omega)
      have hk : k < x.l.length := by omega
      by_cases hF : Fits x.l (un x.l k) k
      · refine turnBacks_yes x (k : Int) w h64 (un x.l k) ?_ (fun W hW => ?_)
        · refine (back_in x k w hx hin h64 (.inl hk)).mono ?_
          rintro e w' ⟨hE, Nn, hN, hcase⟩
          obtain ⟨b1, b2⟩ := both_ways h0 hk hN
          have hff := b1.2 hF
          rcases hcase with ⟨_, y, hy, hyl, rfl⟩ | ⟨hno, _⟩
          · exact ⟨y, rfl, by rw [hyl, b2 hff], hy, hE⟩
          · exact absurd hff hno
        · refine (unturned_in x k W (hx.ext hW) h64 hk).mono ?_
          rintro e w' ⟨hE, y, r, hy, hyl, rfl, hr⟩
          have : r = true := hr.2 hF
          subst this
          exact ⟨y, rfl, hyl, hy, hE⟩
      · refine turnBacks_no x (k : Int) w h64 ?_ (fun W hW => ?_)
        · refine (back_in x k w hx hin h64 (.inl hk)).mono ?_
          rintro e w' ⟨hE, Nn, hN, hcase⟩
          obtain ⟨b1, b2⟩ := both_ways h0 hk hN
          rcases hcase with ⟨hff, _⟩ | ⟨_, rfl⟩
          · exact absurd (b1.1 hff) hF
          · exact ⟨rfl, hE⟩
        · refine (unturned_in x k W (hx.ext hW) h64 hk).mono ?_
          rintro e w' ⟨hE, y, r, hy, hyl, rfl, hr⟩
          have : r = false := by
            cases r
            · rfl
            · exact absurd (hr.1 rfl) hF
          subst this
          exact ⟨y, rfl, hE⟩

set_option maxRecDepth 100000 in
theorem turnBacks_lifted (os : Os) (started : os.Started) (H : Type) (enc : TypeId × Value → H) :
    ReturnsInHanded {} Try.checked os 4 .any (Rows.turnBacksSpec.pre6 enc Try.prog Try.f4 Rows.turnBacksRow.domain false) (Rows.turnBacksSpec.post enc Try.prog Try.f4 false true false false) := by
  refine returnsInHanded_of_change (C := Try.checked) own started (by kernel_rfl) Try.func4
    (ChangeSpec.witness6 (enc := enc) (C := Try.checked) false ⟨#[], #[.slice none 0 0, .int .i64 0], []⟩ 8 (by kernel_rfl) (by kernel_rfl) (by kernel_rfl) (by kernel_rfl)) ?_
  intro W base args ds gs before hval0 hW _ _
  have hval : ∀ (j : Nat) t v, Try.f4.params[j]? = some t → args[j]? = some v → Value.okWide Try.prog W .any base t v := hval0
  have hW' := hW
  obtain ⟨p, q, hA0, hV, rfl, hfz, hnd⟩ := hW
  have hA : DataW.TrodAll enc Try.prog W 0 (fun _ => true) true Try.f4.params.toList args.toList ds p := hA0
  rw [Try.params4] at hA hval
  obtain ⟨v0, vs0, d0, ds0, p0, q0, hargs, rfl, rfl, h0, r0⟩ := trodAll_cons hA
  obtain ⟨v1, vs1, d1, ds1, p1, q1, rfl, rfl, rfl, h1, r1⟩ := trodAll_cons r0
  obtain ⟨rfl, rfl, rfl⟩ := trodAll_nil r1
  obtain rfl : args = #[v0, v1] := by cases args; simp_all
  obtain ⟨rfl, rfl⟩ := trodVars_none hV
  have lt0 : ∀ x ∈ p0, x.block < W.heap.size := by obtain ⟨m, hm⟩ := h0; exact DataW.trod_lt m _ _ _ hm
  obtain ⟨x0, rfl, w0, y0, z0⟩ := open_word (hval 0 22 v0 rfl rfl) h0
  have lt1 : ∀ x ∈ p1, x.block < W.heap.size := by obtain ⟨m, hm⟩ := h1; exact DataW.trod_lt m _ _ _ hm
  obtain ⟨x1, rfl, -, -, wf1⟩ := open_int Try.underlying3 (hval 1 3 v1 rfl rfl) h1
  clear hA0 hval0
  refine (turnBacks_walk x0 x1 W w0 y0).mono fun e W' ⟨he, bel⟩ => ?_
  subst he
  exact ⟨_, rfl, _, _, _, [], _, [], hW', trodAll_mk1 (shut_bool Try.underlying4 _), (trodAll_cons_mk (Below.trod laidOut (by kernel_rfl) (of_decide_eq_true (by kernel_rfl)) h0 bel lt0) (trodAll_cons_mk (Below.trod laidOut (by kernel_rfl) (of_decide_eq_true (by kernel_rfl)) h1 bel lt1) trodAll_mk0)), rfl, bel.frame _, fun h => by cases h⟩

theorem turnBacks_holds : Rows.TurnBacksSaid :=
  OpenClaim.holds_of_wide 4 Try.f4 rfl rfl rfl rfl rfl rfl rfl ⟨rfl, rfl, rfl, rfl, rfl⟩ rfl rfl rfl rfl rfl (by kernel_rfl) Try.func4 (by kernel_rfl)
    (of_decide_eq_true (by kernel_rfl)) (by unfold Func.isWrapper; rw [if_neg (of_decide_eq_false (by kernel_rfl))]; exact ⟨rfl, rfl⟩)
    (fun os started H enc _ => turnBacks_lifted os started H enc)

#print axioms turnBacks_holds

end Go.Proofs.Ytkccdhidmihekaa
