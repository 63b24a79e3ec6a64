/-
  For any bits: what is read is told as those that were used: EliasOnly returns true for every list of bits, and changes nothing.
-/
import Derived.Test.YtenpinjbeejamabOpen
import Derived.Test.YtenpinjbeejamabGam
import Derived.Test.YtenpinjbeejamabRdg
namespace Go.Proofs.Ytenpinjbeejamab
open Go.ChangeShapes Go.WideShapes Go.ChangeAt Go.RowKit Go.Deep
set_option linter.unusedVariables false

theorem Bits.take {w : World} {a : Option Addr} {c : Nat} {l : List Bool} (h : Bits w ⟨a, c, l⟩) (i : Nat) : Bits w ⟨a, c, l.take i⟩ := by
  obtain ⟨h1, h2, h0, b, o, h3, h4⟩ := h
  simp only at h1 h2 h0 h3 h4
  refine ⟨by simp only [List.length_take]; omega, h2, h0, b, o, fun h => h3 (by simp only [List.length_take] at h; omega), fun j hj => ?_⟩
  simp only [List.length_take] at hj
  rw [h4 j (by omega)]
  simp [List.getD_eq_getElem?_getD, show j < i by omega]

set_option maxHeartbeats 4000000 in
theorem eliasOnly_walk (x : Wd) (w : World) (hx : Bits w x) : Calls Try.prog 3 #[x.v] w fun e w' => e = .returned (.bool true) ∧ Ext w w' := by
  have h1 := readGamma_any x w hx
  have h2 := readDelta_any x w hx
  have hG : ∀ p, rdG x.l = some p → p.1 ≠ 0 ∧ p.1 ≤ 1048576 ∧ 1 ≤ p.2 ∧ p.2 ≤ x.l.length ∧ gam p.1 = x.l.take p.2 := fun p hp => rdG_some (n := p.1) (e := p.2) hp
  have hD : ∀ p, rdD x.l = some p → p.1 ≠ 0 ∧ p.1 ≤ 1048576 ∧ 1 ≤ p.2 ∧ p.2 ≤ x.l.length ∧ del p.1 = x.l.take p.2 := fun p hp => rdD_some (n := p.1) (e := p.2) hp
  obtain ⟨xa, xc, xl⟩ := x
  have hxc := hx.1
  have hxm := hx.2.1
  have BX : Hid (∀ i W, Ext w W → Bits W ⟨xa, xc, xl.take i⟩) := fun i W e => (hx.ext e).take i
  simp only [Wd.v] at *
  unfold maxLen at hxm
  clear hx
  cases hr : rdG xl with
  | none =>
    have hr2 : rdD xl = none := by unfold rdD; rw [hr]; rfl
    rw [hr] at h1
    rw [hr2] at h2
    simp only [rv] at h1 h2
    clear hG hD hr hr2 BX
    generalize xl.length = n at *
    go_enter Try.func3, Try.ntmps3
    go_wp2_with fail
    refine h1.mono ?_
    rintro e w1 ⟨rfl, rfl⟩
    clear h1
    go_wp2_with fail
    refine h2.mono ?_
    rintro e w1 ⟨rfl, rfl⟩
    clear h2
    go_wp2
    go_ret
    exact ⟨rfl, Ext.refl _⟩
  | some p =>
    obtain ⟨v, u⟩ := p
    obtain ⟨g1, g2, g3, g4, g5⟩ := hG _ hr
    simp only at g1 g2 g3 g4 g5
    rw [hr] at h1
    simp only [rv] at h1
    clear hG hr
    have GG : Hid (∀ W, Calls Try.prog 6 #[.int .i64 (v : Int)] W fun e w' => ∃ y : Wd, e = .returned (.tuple #[y.v, .int .i64 0]) ∧ y.l = xl.take u ∧ Bits w' y ∧ Ext W w') := fun W =>
      (Gamma_good v g1 g2 W).mono fun e w' ⟨z, he, ⟨y, hy1, hy2, hy3⟩, hE⟩ => ⟨y, by rw [he, hy1], by rw [hy2, g5], hy3, hE⟩
    have BU : Hid (∀ W, Ext w W → Bits W ⟨xa, xc, xl.take u⟩) := fun W e => BX.out u W e
    have HTu : Hid ((xl.take u).length = u) := by show _ = _; rw [List.length_take]; omega
    have u1 : ¬ ((u : Int) < 1) := by omega
    have u2 : ¬ ((u : Int) > (xl.length : Int)) := by omega
    have u3 : (u : Int) ≤ (xc : Int) := by omega
    cases hr2 : rdD xl with
    | none =>
      rw [hr2] at h2
      simp only [rv] at h2
      clear hD hr2 BX g5
      generalize xl.length = n at *
      go_enter Try.func3, Try.ntmps3
      go_wp2_with fail
      refine h1.mono ?_
      rintro e w1 ⟨rfl, rfl⟩
      clear h1
      go_wp2_with fail
      refine h2.mono ?_
      rintro e w1 ⟨rfl, rfl⟩
      clear h2
      have E : Hid (Ext w1 w1) := Ext.refl _
      go_wp2_with fail
      refine (GG.out _).mono ?_
      rintro e w2a ⟨yw2, rfl, hy, hby, he⟩
      have hbl := bools_any yw2 ⟨xa, xc, xl.take u⟩ w2a hby (BU.out _ (E.out.trans he))
      rw [hy] at hbl
      simp only [beq_self_eq_true] at hbl
      have Ea : Hid (Ext w1 w2a) := E.out.trans he
      have hut : (xl.take u).length = u := HTu.out
      simp only [Wd.v] at hbl
      rw [hut] at hbl
      clear hy hby he hut GG
      simp only [Wd.v]
      generalize yw2.l.length = nw2 at *
      go_wp2_with fail
      refine hbl.mono ?_
      rintro e w2 ⟨rfl, hq⟩
      have Eb : Hid (Ext w1 w2) := Ea.out.trans hq.ext
      clear hq hbl Ea
      go_wp2
      go_ret
      exact ⟨ret_bool (by simp), Eb.out⟩
    | some p =>
      obtain ⟨c, t⟩ := p
      obtain ⟨d1, d2, d3, d4, d5⟩ := hD _ hr2
      simp only at d1 d2 d3 d4 d5
      rw [hr2] at h2
      simp only [rv] at h2
      clear hD hr2
      have DD : Hid (∀ W, Calls Try.prog 8 #[.int .i64 (c : Int)] W fun e w' => ∃ y : Wd, e = .returned (.tuple #[y.v, .int .i64 0]) ∧ y.l = xl.take t ∧ Bits w' y ∧ Ext W w') := fun W =>
        (Delta_good c d1 d2 W).mono fun e w' ⟨z, he, ⟨y, hy1, hy2, hy3⟩, hE⟩ => ⟨y, by rw [he, hy1], by rw [hy2, d5], hy3, hE⟩
      have BT : Hid (∀ W, Ext w W → Bits W ⟨xa, xc, xl.take t⟩) := fun W e => BX.out t W e
      have HTt : Hid ((xl.take t).length = t) := by show _ = _; rw [List.length_take]; omega
      have t1 : ¬ ((t : Int) < 1) := by omega
      have t2 : ¬ ((t : Int) > (xl.length : Int)) := by omega
      have t3 : (t : Int) ≤ (xc : Int) := by omega
      clear BX g5 d5
      generalize xl.length = n at *
      go_enter Try.func3, Try.ntmps3
      go_wp2_with fail
      refine h1.mono ?_
      rintro e w1 ⟨rfl, rfl⟩
      clear h1
      go_wp2_with fail
      refine h2.mono ?_
      rintro e w1 ⟨rfl, rfl⟩
      clear h2
      have E : Hid (Ext w1 w1) := Ext.refl _
      go_wp2_with fail
      refine (GG.out _).mono ?_
      rintro e w2a ⟨yw2, rfl, hy, hby, he⟩
      have hbl := bools_any yw2 ⟨xa, xc, xl.take u⟩ w2a hby (BU.out _ (E.out.trans he))
      rw [hy] at hbl
      simp only [beq_self_eq_true] at hbl
      have Ea : Hid (Ext w1 w2a) := E.out.trans he
      have hut : (xl.take u).length = u := HTu.out
      simp only [Wd.v] at hbl
      rw [hut] at hbl
      clear hy hby he hut GG
      simp only [Wd.v]
      generalize yw2.l.length = nw2 at *
      go_wp2_with fail
      refine hbl.mono ?_
      rintro e w2 ⟨rfl, hq⟩
      have Eb : Hid (Ext w1 w2) := Ea.out.trans hq.ext
      clear hq hbl Ea
      go_wp2_with fail
      refine (DD.out _).mono ?_
      rintro e w3a ⟨yw3, rfl, hy, hby, he⟩
      have hbl := bools_any yw3 ⟨xa, xc, xl.take t⟩ w3a hby (BT.out _ (Eb.out.trans he))
      rw [hy] at hbl
      simp only [beq_self_eq_true] at hbl
      have Eba : Hid (Ext w1 w3a) := Eb.out.trans he
      have hut : (xl.take t).length = t := HTt.out
      simp only [Wd.v] at hbl
      rw [hut] at hbl
      clear hy hby he hut DD
      simp only [Wd.v]
      generalize yw3.l.length = nw3 at *
      go_wp2_with fail
      refine hbl.mono ?_
      rintro e w3 ⟨rfl, hq⟩
      have Ebb : Hid (Ext w1 w3) := Eba.out.trans hq.ext
      clear hq hbl Eba
      go_wp2
      go_ret
      exact ⟨ret_bool (by simp), Ebb.out⟩

set_option maxRecDepth 100000 in
theorem eliasOnly_lifted (os : Os) (started : os.Started) (H : Type) (enc : TypeId × Value → H) :
    ReturnsInHanded {} Try.checked os 3 .any (Rows.eliasOnlySpec.pre6 enc Try.prog Try.f3 Rows.eliasOnlyRow.domain false) (Rows.eliasOnlySpec.post enc Try.prog Try.f3 false true false false) := by
  refine returnsInHanded_of_change (C := Try.checked) own started (by kernel_rfl) Try.func3
    (ChangeSpec.witness6 (enc := enc) (C := Try.checked) false ⟨#[], #[.slice none 0 0], []⟩ 8 (by kernel_rfl) (by kernel_rfl) (by kernel_rfl) (by kernel_rfl)) ?_
  intro W base args ds gs before hval0 hW _ _
  have hval : ∀ (j : Nat) t v, Try.f3.params[j]? = some t → args[j]? = some v → Value.okWide Try.prog W .any base t v := hval0
  have hW' := hW
  obtain ⟨p, q, hA0, hV, rfl, hfz, hnd⟩ := hW
  have hA : DataW.TrodAll enc Try.prog W 0 (fun _ => true) true Try.f3.params.toList args.toList ds p := hA0
  rw [Try.params3] at hA hval
  obtain ⟨v0, vs0, d0, ds0, p0, q0, hargs, rfl, rfl, h0, r0⟩ := trodAll_cons hA
  obtain ⟨rfl, rfl, rfl⟩ := trodAll_nil r0
  obtain rfl : args = #[v0] := by cases args; simp_all
  obtain ⟨rfl, rfl⟩ := trodVars_none hV
  have lt0 : ∀ x ∈ p0, x.block < W.heap.size := by obtain ⟨m, hm⟩ := h0; exact DataW.trod_lt m _ _ _ hm
  obtain ⟨x0, rfl, w0⟩ := open_word (hval 0 22 v0 rfl rfl) h0
  clear hA0 hval0
  refine (eliasOnly_walk x0 W w0).mono fun e W' ⟨he, bel⟩ => ?_
  subst he
  exact ⟨_, rfl, _, _, _, [], _, [], hW', trodAll_mk1 (shut_bool Try.underlying4 _), (trodAll_cons_mk (Below.trod laidOut (by kernel_rfl) (of_decide_eq_true (by kernel_rfl)) h0 bel lt0) trodAll_mk0), rfl, bel.frame _, fun h => by cases h⟩

theorem eliasOnly_holds : Rows.EliasOnlySaid :=
  OpenClaim.holds_of_wide 3 Try.f3 rfl rfl rfl rfl rfl rfl rfl ⟨rfl, rfl, rfl, rfl, rfl⟩ rfl rfl rfl rfl rfl (by kernel_rfl) Try.func3 (by kernel_rfl)
    (of_decide_eq_true (by kernel_rfl)) (by unfold Func.isWrapper; rw [if_neg (of_decide_eq_false (by kernel_rfl))]; exact ⟨rfl, rfl⟩)
    (fun os started H enc _ => eliasOnly_lifted os started H enc)

#print axioms eliasOnly_holds

end Go.Proofs.Ytenpinjbeejamab
