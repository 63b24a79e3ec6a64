/-
  What was put is got, and what is got is put: EvenBack returns true for every list of bits, and changes nothing.
-/
import Derived.Test.YtibedfdgkknoiaaOpen
import Derived.Test.YtibedfdgkknoiaaHl
import Derived.ProofKit
namespace Go.Proofs.Ytibedfdgkknoiaa
open Go.ChangeShapes Go.WideShapes Go.ChangeAt Go.RowKit Go.Deep
set_option linter.unusedVariables false

theorem Get_bad (x : Wd) (hg : x.l.length ≤ 20 → gt x.l = none) (w : World) (hx : Bits w x) : Calls Try.prog 14 #[x.v] w fun e w' => ∃ z : Int, e = .returned (.tuple #[.slice none 0 0, .int .i64 z]) ∧ (z == 0) = false ∧ Ext w w' := by
  by_cases h : x.l.length ≤ 20
  · refine (Get_none x h (hg h) w hx).mono ?_
    rintro e w' ⟨rfl, E⟩
    exact ⟨3, rfl, rfl, E⟩
  · refine (Get_large x (by omega) (Nat.le_trans hx.1 hx.2.1) w).mono ?_
    rintro e w' ⟨rfl, rfl⟩
    exact ⟨1, rfl, rfl, Ext.refl _⟩

set_option maxHeartbeats 1000000 in
theorem evenBack_good_none (x : Wd) (h : ce x.l.length = 0) (hg : x.l.length ≤ 20 → gt x.l = none) (w : World) (hx : Bits w x) : Calls Try.prog 7 #[x.v] w fun e w' => e = .returned (.bool true) ∧ Ext w w' := by
  have hm : x.l.length ≤ maxLen := Nat.le_trans hx.1 hx.2.1
  unfold maxLen at hm
  obtain ⟨hl, he⟩ := ce_zero h
  have c1 := Put_good x hl he w hx
  have GP : Hid (∀ (W : World) (y : Wd), y.l = pt x.l → Bits W y → Calls Try.prog 14 #[y.v] W fun e w' => ∃ v, e = .returned (.tuple #[v, .int .i64 0]) ∧ OwnB W w' v x.l) := fun W y hy hb => Get_some y (by rw [hy, pt_len]; omega) x.l (by rw [hy]; exact gt_pt hl he) W hb
  have BK : Hid (∀ (W : World) (y : Wd), Ext w W → y.l = x.l → Bits W y → Calls Try.prog 11 #[y.v, x.v] W fun e w' => e = .returned (.bool true) ∧ Ext W w') := fun W y E hy hb => same_any y x W hb (hx.ext E) hy
  have GX : Hid (∀ W, Ext w W → Calls Try.prog 14 #[x.v] W fun e w' => ∃ z : Int, e = .returned (.tuple #[.slice none 0 0, .int .i64 z]) ∧ (z == 0) = false ∧ Ext W w') := fun W E => Get_bad x hg W (hx.ext E)
  clear hx h hg
  simp only [Wd.v] at *
  generalize x.l = l at *
  obtain ⟨n, hn⟩ : ∃ n, l.length = n := ⟨_, rfl⟩
  simp only [hn] at *
  clear hn
  generalize pt l = P at *
  go_enter Try.func7, Try.ntmps7
  go_wp2_with fail
  refine c1.mono ?_
  rintro e w1 ⟨v, rfl, O⟩
  obtain ⟨y, rfl, hy, hb, E⟩ := O.word
  have E1 : Hid (Ext w w1) := E
  have Y1 : Hid (y.l = P ∧ Bits w1 y) := ⟨hy, hb⟩
  clear c1 hy hb E O
  go_wp2_with fail
  refine (GX.out w1 E1.out).mono ?_
  rintro e w2 ⟨z2, rfl, hz2, E⟩
  have E2 : Hid (Ext w w2) := E1.out.trans E
  have Y2 : Hid (y.l = P ∧ Bits w2 y) := ⟨Y1.out.1, Y1.out.2.ext E⟩
  clear GX E E1 Y1
  go_wp2_with fail
  refine (GP.out w2 y Y2.out.1 Y2.out.2).mono ?_
  rintro e w3 ⟨v, rfl, O⟩
  obtain ⟨q, rfl, hy, hb, E⟩ := O.word
  have E3 : Hid (Ext w w3) := E2.out.trans E
  have c4 := BK.out w3 q E3.out hy hb
  clear GP E hy hb O E2 Y2
  go_wp2_with fail
  refine c4.mono ?_
  rintro e w4 ⟨rfl, E⟩
  have E4 : Hid (Ext w w4) := E3.out.trans E
  clear c4 E E3
  clear BK
  go_wp2
  go_ret
  exact ⟨rfl, E4.out⟩

set_option maxHeartbeats 1000000 in
theorem evenBack_good_some (x : Wd) (h : ce x.l.length = 0) (h20 : x.l.length ≤ 20) (t : List Bool) (hg : gt x.l = some t) (w : World) (hx : Bits w x) : Calls Try.prog 7 #[x.v] w fun e w' => e = .returned (.bool true) ∧ Ext w w' := by
  have hm : x.l.length ≤ maxLen := Nat.le_trans hx.1 hx.2.1
  unfold maxLen at hm
  obtain ⟨hl, he⟩ := ce_zero h
  have c1 := Put_good x hl he w hx
  have GP : Hid (∀ (W : World) (y : Wd), y.l = pt x.l → Bits W y → Calls Try.prog 14 #[y.v] W fun e w' => ∃ v, e = .returned (.tuple #[v, .int .i64 0]) ∧ OwnB W w' v x.l) := fun W y hy hb => Get_some y (by rw [hy, pt_len]; omega) x.l (by rw [hy]; exact gt_pt hl he) W hb
  have BK : Hid (∀ (W : World) (y : Wd), Ext w W → y.l = x.l → Bits W y → Calls Try.prog 11 #[y.v, x.v] W fun e w' => e = .returned (.bool true) ∧ Ext W w') := fun W y E hy hb => same_any y x W hb (hx.ext E) hy
  have GX : Hid (∀ W, Ext w W → Calls Try.prog 14 #[x.v] W fun e w' => ∃ v, e = .returned (.tuple #[v, .int .i64 0]) ∧ OwnB W w' v t) := fun W E => Get_some x h20 t hg W (hx.ext E)
  have PT : Hid (∀ (W : World) (y : Wd), y.l = t → Bits W y → Calls Try.prog 12 #[y.v] W fun e w' => ∃ v, e = .returned (.tuple #[v, .int .i64 0]) ∧ OwnB W w' v x.l) := fun W y hy hb => by
    obtain ⟨_, g2, _, _, _, g6⟩ := gt_some hg
    rw [← gt_back hg, ← hy]
    exact Put_good y (by rw [hy, g6]; omega) (by rw [hy, g6]; omega) W hb
  clear hx h hg h20
  simp only [Wd.v] at *
  generalize x.l = l at *
  obtain ⟨n, hn⟩ : ∃ n, l.length = n := ⟨_, rfl⟩
  simp only [hn] at *
  clear hn
  generalize pt l = P at *
  go_enter Try.func7, Try.ntmps7
  go_wp2_with fail
  refine c1.mono ?_
  rintro e w1 ⟨v, rfl, O⟩
  obtain ⟨y, rfl, hy, hb, E⟩ := O.word
  have E1 : Hid (Ext w w1) := E
  have Y1 : Hid (y.l = P ∧ Bits w1 y) := ⟨hy, hb⟩
  clear c1 hy hb E O
  go_wp2_with fail
  refine (GX.out w1 E1.out).mono ?_
  rintro e w2 ⟨v, rfl, O⟩
  obtain ⟨g, rfl, hy, hb, E⟩ := O.word
  have E2 : Hid (Ext w w2) := E1.out.trans E
  have G2 : Hid (g.l = t ∧ Bits w2 g) := ⟨hy, hb⟩
  have Y2 : Hid (y.l = P ∧ Bits w2 y) := ⟨Y1.out.1, Y1.out.2.ext E⟩
  clear GX E E1 Y1 hy hb O
  go_wp2_with fail
  refine (GP.out w2 y Y2.out.1 Y2.out.2).mono ?_
  rintro e w3 ⟨v, rfl, O⟩
  obtain ⟨q, rfl, hy, hb, E⟩ := O.word
  have E3 : Hid (Ext w w3) := E2.out.trans E
  have c4 := BK.out w3 q E3.out hy hb
  have G3 : Hid (g.l = t ∧ Bits w3 g) := ⟨G2.out.1, G2.out.2.ext E⟩
  clear G2
  clear GP E hy hb O E2 Y2
  go_wp2_with fail
  refine c4.mono ?_
  rintro e w4 ⟨rfl, E⟩
  have E4 : Hid (Ext w w4) := E3.out.trans E
  have G4 : Hid (g.l = t ∧ Bits w4 g) := ⟨G3.out.1, G3.out.2.ext E⟩
  clear G3
  clear c4 E E3
  go_wp2_with fail
  refine (PT.out w4 g G4.out.1 G4.out.2).mono ?_
  rintro e w5 ⟨v, rfl, O⟩
  obtain ⟨r, rfl, hy, hb, E⟩ := O.word
  have E5 : Hid (Ext w w5) := E4.out.trans E
  have c6 := BK.out w5 r E5.out hy hb
  clear PT BK E hy hb O E4 G4
  go_wp2_with fail
  refine c6.mono ?_
  rintro e w6 ⟨rfl, E⟩
  have E6 : Hid (Ext w w6) := E5.out.trans E
  clear c6 E E5
  go_wp2
  go_ret
  exact ⟨rfl, E6.out⟩

set_option maxHeartbeats 1000000 in
theorem evenBack_bad_none (x : Wd) (h : ce x.l.length ≠ 0) (hg : x.l.length ≤ 20 → gt x.l = none) (w : World) (hx : Bits w x) : Calls Try.prog 7 #[x.v] w fun e w' => e = .returned (.bool true) ∧ Ext w w' := by
  have hm : x.l.length ≤ maxLen := Nat.le_trans hx.1 hx.2.1
  unfold maxLen at hm
  have c1 := Put_bad x h hm w
  have hz : (ce x.l.length == 0) = false := beq_eq_false_iff_ne.2 h
  have nb : 12 < x.l.length ∨ (x.l.length ≤ 12 ∧ x.l.length % 2 = 1) := by
    rcases ce_not h with h1 | h1
    · exact .inl h1
    · by_cases h2 : 12 < x.l.length
      · exact .inl h2
      · exact .inr ⟨by omega, h1⟩
  have yz := rem2 x.l.length
  have BK : Hid (∀ (W : World) (y : Wd), Ext w W → y.l = x.l → Bits W y → Calls Try.prog 11 #[y.v, x.v] W fun e w' => e = .returned (.bool true) ∧ Ext W w') := fun W y E hy hb => same_any y x W hb (hx.ext E) hy
  have GX : Hid (∀ W, Ext w W → Calls Try.prog 14 #[x.v] W fun e w' => ∃ z : Int, e = .returned (.tuple #[.slice none 0 0, .int .i64 z]) ∧ (z == 0) = false ∧ Ext W w') := fun W E => Get_bad x hg W (hx.ext E)
  clear hx h hg
  simp only [Wd.v] at *
  generalize ce x.l.length = z at *
  generalize x.l = l at *
  obtain ⟨n, hn⟩ : ∃ n, l.length = n := ⟨_, rfl⟩
  simp only [hn] at *
  clear hn
  go_enter Try.func7, Try.ntmps7
  go_wp2_with fail
  refine c1.mono ?_
  rintro e w1 ⟨rfl, rfl⟩
  have E1 : Hid (Ext w1 w1) := Ext.refl _
  clear c1
  go_wp2_with fail
  refine (GX.out w1 E1.out).mono ?_
  rintro e w2 ⟨z2, rfl, hz2, E⟩
  have E2 : Hid (Ext w1 w2) := E1.out.trans E
  clear GX E E1
  rcases nb with nb | ⟨nb, nb2⟩
  · have nz : ¬ (n : Int) ≤ 12 := by omega
    clear nb yz
    clear BK
    go_wp2
    go_ret
    exact ⟨rfl, E2.out⟩
  · have nz : (n : Int) ≤ 12 := by omega
    rw [nb2] at yz
    clear nb nb2
    clear BK
    go_wp2
    go_ret
    exact ⟨rfl, E2.out⟩

set_option maxHeartbeats 1000000 in
theorem evenBack_bad_some (x : Wd) (h : ce x.l.length ≠ 0) (h20 : x.l.length ≤ 20) (t : List Bool) (hg : gt x.l = some t) (w : World) (hx : Bits w x) : Calls Try.prog 7 #[x.v] w fun e w' => e = .returned (.bool true) ∧ Ext w w' := by
  have hm : x.l.length ≤ maxLen := Nat.le_trans hx.1 hx.2.1
  unfold maxLen at hm
  have c1 := Put_bad x h hm w
  have hz : (ce x.l.length == 0) = false := beq_eq_false_iff_ne.2 h
  have nb : 12 < x.l.length ∨ (x.l.length ≤ 12 ∧ x.l.length % 2 = 1) := by
    rcases ce_not h with h1 | h1
    · exact .inl h1
    · by_cases h2 : 12 < x.l.length
      · exact .inl h2
      · exact .inr ⟨by omega, h1⟩
  have yz := rem2 x.l.length
  have BK : Hid (∀ (W : World) (y : Wd), Ext w W → y.l = x.l → Bits W y → Calls Try.prog 11 #[y.v, x.v] W fun e w' => e = .returned (.bool true) ∧ Ext W w') := fun W y E hy hb => same_any y x W hb (hx.ext E) hy
  have GX : Hid (∀ W, Ext w W → Calls Try.prog 14 #[x.v] W fun e w' => ∃ v, e = .returned (.tuple #[v, .int .i64 0]) ∧ OwnB W w' v t) := fun W E => Get_some x h20 t hg W (hx.ext E)
  have PT : Hid (∀ (W : World) (y : Wd), y.l = t → Bits W y → Calls Try.prog 12 #[y.v] W fun e w' => ∃ v, e = .returned (.tuple #[v, .int .i64 0]) ∧ OwnB W w' v x.l) := fun W y hy hb => by
    obtain ⟨_, g2, _, _, _, g6⟩ := gt_some hg
    rw [← gt_back hg, ← hy]
    exact Put_good y (by rw [hy, g6]; omega) (by rw [hy, g6]; omega) W hb
  clear hx h hg h20
  simp only [Wd.v] at *
  generalize ce x.l.length = z at *
  generalize x.l = l at *
  obtain ⟨n, hn⟩ : ∃ n, l.length = n := ⟨_, rfl⟩
  simp only [hn] at *
  clear hn
  go_enter Try.func7, Try.ntmps7
  go_wp2_with fail
  refine c1.mono ?_
  rintro e w1 ⟨rfl, rfl⟩
  have E1 : Hid (Ext w1 w1) := Ext.refl _
  clear c1
  go_wp2_with fail
  refine (GX.out w1 E1.out).mono ?_
  rintro e w2 ⟨v, rfl, O⟩
  obtain ⟨g, rfl, hy, hb, E⟩ := O.word
  have E2 : Hid (Ext w1 w2) := E1.out.trans E
  have G2 : Hid (g.l = t ∧ Bits w2 g) := ⟨hy, hb⟩
  clear GX E E1 hy hb O
  rcases nb with nb | ⟨nb, nb2⟩
  · have nz : ¬ (n : Int) ≤ 12 := by omega
    clear nb yz
    go_wp2_with fail
    refine (PT.out w2 g G2.out.1 G2.out.2).mono ?_
    rintro e w5 ⟨v, rfl, O⟩
    obtain ⟨r, rfl, hy, hb, E⟩ := O.word
    have E5 : Hid (Ext w1 w5) := E2.out.trans E
    have c6 := BK.out w5 r E5.out hy hb
    clear PT BK E hy hb O E2 G2
    go_wp2_with fail
    refine c6.mono ?_
    rintro e w6 ⟨rfl, E⟩
    have E6 : Hid (Ext w1 w6) := E5.out.trans E
    clear c6 E E5
    go_wp2
    go_ret
    exact ⟨rfl, E6.out⟩
  · have nz : (n : Int) ≤ 12 := by omega
    rw [nb2] at yz
    clear nb nb2
    go_wp2_with fail
    refine (PT.out w2 g G2.out.1 G2.out.2).mono ?_
    rintro e w5 ⟨v, rfl, O⟩
    obtain ⟨r, rfl, hy, hb, E⟩ := O.word
    have E5 : Hid (Ext w1 w5) := E2.out.trans E
    have c6 := BK.out w5 r E5.out hy hb
    clear PT BK E hy hb O E2 G2
    go_wp2_with fail
    refine c6.mono ?_
    rintro e w6 ⟨rfl, E⟩
    have E6 : Hid (Ext w1 w6) := E5.out.trans E
    clear c6 E E5
    go_wp2
    go_ret
    exact ⟨rfl, E6.out⟩

theorem evenBack_walk (x : Wd) (w : World) (hx : Bits w x) : Calls Try.prog 7 #[x.v] w fun e w' => e = .returned (.bool true) ∧ Ext w w' := by
  by_cases hg : x.l.length ≤ 20 → gt x.l = none
  · by_cases h : ce x.l.length = 0
    · exact evenBack_good_none x h hg w hx
    · exact evenBack_bad_none x h hg w hx
  · have h20 : x.l.length ≤ 20 := Classical.byContradiction fun h => hg fun h' => absurd h' h
    cases ht : gt x.l with
    | none => exact absurd (fun _ => ht) hg
    | some t =>
      by_cases h : ce x.l.length = 0
      · exact evenBack_good_some x h h20 t ht w hx
      · exact evenBack_bad_some x h h20 t ht w hx

set_option maxRecDepth 100000 in
theorem evenBack_lifted (os : Os) (started : os.Started) (H : Type) (enc : TypeId × Value → H) :
    ReturnsInHanded {} Try.checked os 7 .any (Rows.evenBackSpec.pre6 enc Try.prog Try.f7 Rows.evenBackRow.domain false) (Rows.evenBackSpec.post enc Try.prog Try.f7 false true false false) := by
  refine returnsInHanded_of_change (C := Try.checked) own started (by kernel_rfl) Try.func7
    (ChangeSpec.witness6 (enc := enc) (C := Try.checked) false ⟨#[], #[.slice none 0 0], []⟩ 8 (by kernel_rfl) (by kernel_rfl) (by kernel_rfl) (by kernel_rfl)) ?_
  intro W base args ds gs before hval0 hW _ _
  have hval : ∀ (j : Nat) t v, Try.f7.params[j]? = some t → args[j]? = some v → Value.okWide Try.prog W .any base t v := hval0
  have hW' := hW
  obtain ⟨p, q, hA0, hV, rfl, hfz, hnd⟩ := hW
  have hA : DataW.TrodAll enc Try.prog W 0 (fun _ => true) true Try.f7.params.toList args.toList ds p := hA0
  rw [Try.params7] at hA hval
  obtain ⟨v0, vs0, d0, ds0, p0, q0, hargs, rfl, rfl, h0, r0⟩ := trodAll_cons hA
  obtain ⟨rfl, rfl, rfl⟩ := trodAll_nil r0
  obtain rfl : args = #[v0] := by cases args; simp_all
  obtain ⟨rfl, rfl⟩ := trodVars_none hV
  have lt0 : ∀ x ∈ p0, x.block < W.heap.size := by obtain ⟨m, hm⟩ := h0; exact DataW.trod_lt m _ _ _ hm
  obtain ⟨x0, rfl, w0⟩ := open_word (hval 0 22 v0 rfl rfl) h0
  clear hA0 hval0
  refine (evenBack_walk x0 W w0).mono fun e W' ⟨he, bel⟩ => ?_
  subst he
  exact ⟨_, rfl, _, _, _, [], _, [], hW', trodAll_mk1 (shut_bool Try.underlying4 _), (trodAll_cons_mk (Below.trod laidOut (by kernel_rfl) (of_decide_eq_true (by kernel_rfl)) h0 bel lt0) trodAll_mk0), rfl, bel.frame _, fun h => by cases h⟩

theorem evenBack_holds : Rows.EvenBackSaid :=
  OpenClaim.holds_of_wide 7 Try.f7 rfl rfl rfl rfl rfl rfl rfl ⟨rfl, rfl, rfl, rfl, rfl⟩ rfl rfl rfl rfl rfl (by kernel_rfl) Try.func7 (by kernel_rfl)
    (of_decide_eq_true (by kernel_rfl)) (by unfold Func.isWrapper; rw [if_neg (of_decide_eq_false (by kernel_rfl))]; exact ⟨rfl, rfl⟩)
    (fun os started H enc _ => evenBack_lifted os started H enc)

#print axioms evenBack_holds

end Go.Proofs.Ytibedfdgkknoiaa
