/-
  For any bits the program tells the data whose bits are the nearest, and how near: TrellisGets returns true for every list of bits, and changes nothing; on its way lies the table of all states, tied to the program's text.
-/
import Derived.Test.YtnkhlohoaoiefaaDoorGe
import Derived.Test.YtnkhlohoaoiefaaDoorRg
import Derived.Test.YtnkhlohoaoiefaaDoorLd
import Derived.Test.YtnkhlohoaoiefaaDoorOpen
import Derived.Test.YtnkhlohoaoiefaaDoorEq
import Derived.Test.YtnkhlohoaoiefaaDoorCards
import Derived.Test.YtnkhlohoaoiefaaDoorTie
import Derived.ProofKit
namespace Go.Proofs.YtnkhlohoaoiefaaDoor
open Go.ChangeShapes Go.WideShapes Go.ChangeAt Go.RowKit Go.Deep
set_option linter.unusedVariables false

set_option maxRecDepth 100000 in
theorem gets_bad (x : Wd) (hm : x.l.length ≤ 9223372036854775807) (h0 : ge x.l.length ≠ 0) (w : World) : Calls Tryd.prog 3 #[x.v] w fun e w' => e = .returned (.bool true) ∧ Ext w w' := by
  have c1 := get_bad x hm h0 w
  simp only [Wd.v] at *
  generalize x.l.length = n at *
  have yz : (n : Int).tmod 2 = ((n % 2 : Nat) : Int) := by rw [show (2 : Int) = ((2 : Nat) : Int) from rfl, ← Int.ofNat_tmod]
  have yq : (n : Int).tdiv 2 = ((n / 2 : Nat) : Int) := by rw [show (2 : Int) = ((2 : Nat) : Int) from rfl, ← Int.ofNat_tdiv]
  by_cases h1 : n % 2 = 1
  · have e : ge n = 3 := if_pos (.inl h1)
    rw [h1] at yz
    rw [e] at c1
    clear e h0 yq
    go_enter Tryd.func3, Tryd.ntmps3
    go_wp2_with fail
    refine c1.mono ?_
    rintro e w1 ⟨rfl, rfl⟩
    clear c1
    go_wp2
    go_ret
    exact ⟨rfl, Ext.refl _⟩
  · have h0' : n % 2 = 0 := by omega
    rw [h0'] at yz
    by_cases h2 : n < 4
    · have e : ge n = 3 := if_pos (.inr h2)
      have hz : (n : Int) < 4 := by omega
      rw [e] at c1
      clear e h0 yq
      go_enter Tryd.func3, Tryd.ntmps3
      go_wp2_with fail
      refine c1.mono ?_
      rintro e w1 ⟨rfl, rfl⟩
      clear c1
      go_wp2
      go_ret
      exact ⟨rfl, Ext.refl _⟩
    · have hz : ¬ (n : Int) < 4 := by omega
      have h3 : 12 < n / 2 - 2 := by
        rcases Nat.lt_or_ge 12 (n / 2 - 2) with h | h
        · exact h
        · exfalso
          apply h0
          unfold ge
          rw [if_neg (by omega), if_neg (by omega)]
      have e : ge n = 1 := by
        unfold ge
        rw [if_neg (by omega), if_pos h3]
      have hb : n / 2 ≤ n := Nat.div_le_self _ _
      rw [e] at c1
      clear e h0
      generalize n / 2 = m at *
      have hz3 : (12 : Int) < (m : Int) - 2 := by omega
      have e1 : wrap64 (m : Int) = m := by simp only [wrap64]; omega
      have e2 : wrap64 ((m : Int) - 2) = (m : Int) - 2 := by simp only [wrap64]; omega
      go_enter Tryd.func3, Tryd.ntmps3
      go_wp2_with fail
      refine c1.mono ?_
      rintro e w1 ⟨rfl, rfl⟩
      clear c1
      go_wp2
      go_ret
      exact ⟨rfl, Ext.refl _⟩

set_option maxRecDepth 100000 in
theorem gets_good (x : Wd) (n : Nat) (hl : x.l.length = 2 * n + 4) (hn : n ≤ 12) (w : World) (hx : Bits w x) (tb : TB w) : Calls Tryd.prog 3 #[x.v] w fun e w' => e = .returned (.bool true) ∧ Ext w w' := by
  have c1 := get_good x n hl hn w hx tb
  have c2 : Hid (∀ W, Ext w W → Calls Tryd.prog 7 #[.slice x.a (2 * n + 4 : Nat) x.c] W fun e w' => ∃ y : Wd, e = .returned (.tuple #[y.v, .int .i64 (nd x.l n (gy x.l n) : Nat)]) ∧ y.l = dg (gy x.l n) n ∧ Bits w' y ∧ Ext W w') := fun W E => by
    have := refTrellises_any x n hl hn W (hx.ext E)
    rw [Wd.v, hl] at this
    exact this
  have c3 : Hid (∀ (y z : Wd) (W : World), y.l = dg (gy x.l n) n → z.l = dg (gy x.l n) n → Bits W y → Bits W z → Calls Tryd.prog 8 #[y.v, z.v] W fun e w' => e = .returned (.bool true) ∧ Ext W w') := fun y z W hy hz h h' => by
    refine (bools_any y z W h h').mono ?_
    rintro e w' ⟨rfl, q⟩
    refine ⟨ret_bool ?_, q.ext⟩
    rw [hy, hz]
    simp
  have yz : ((2 * n + 4 : Nat) : Int).tmod 2 = 0 := by
    rw [show (2 : Int) = ((2 : Nat) : Int) from rfl, ← Int.ofNat_tmod]
    omega
  have yq : ((2 * n + 4 : Nat) : Int).tdiv 2 = (n : Int) + 2 := by
    rw [show (2 : Int) = ((2 : Nat) : Int) from rfl, ← Int.ofNat_tdiv]
    omega
  have hz : ¬ ((2 * n + 4 : Nat) : Int) < 4 := by omega
  have hz3 : ¬ (12 : Int) < (n : Int) := by omega
  simp only [Wd.v] at *
  rw [hl] at c1 ⊢
  obtain ⟨N, hN⟩ : ∃ N, 2 * n + 4 = N := ⟨_, rfl⟩
  have hN2 : N ≤ 28 := by omega
  rw [hN] at c1 c2 yz yq hz ⊢
  generalize nd x.l n (gy x.l n) = dd at *
  generalize dg (gy x.l n) n = R at *
  clear hl hN hx tb
  go_enter Tryd.func3, Tryd.ntmps3
  go_wp2_with fail
  refine c1.mono ?_
  rintro e w1 ⟨y, rfl, hy, hb, E1⟩
  have Y : Hid (y.l = R ∧ Bits w1 y) := ⟨hy, hb⟩
  have E : Hid (Ext w w1) := E1
  clear c1 hy hb E1
  go_wp2_with fail
  refine (c2.out w1 E.out).mono ?_
  rintro e w2 ⟨z, rfl, hz', hb, E2⟩
  have Z : Hid (z.l = R ∧ Bits w2 z) := ⟨hz', hb⟩
  have Y2 : Hid (y.l = R ∧ Bits w2 y) := ⟨Y.out.1, Y.out.2.ext E2⟩
  have E' : Hid (Ext w w2) := E.out.trans E2
  clear c2 hz' hb E2 E Y
  go_wp2_with fail
  refine (c3.out y z w2 Y2.out.1 Z.out.1 Y2.out.2 Z.out.2).mono ?_
  rintro e w3 ⟨rfl, E3⟩
  have E4 : Hid (Ext w w3) := E'.out.trans E3
  clear c3 E3 E' Y2 Z
  go_wp2
  go_ret
  exact ⟨rfl, E4.out⟩

theorem gets_walk (x : Wd) (w : World) (hx : Bits w x) (tb : TB w) : Calls Tryd.prog 3 #[x.v] w fun e w' => e = .returned (.bool true) ∧ Ext w w' := by
  have hm : x.l.length ≤ 9223372036854775807 := Nat.le_trans hx.1 hx.2.1
  by_cases h : ge x.l.length = 0
  · have h2 : x.l.length = 2 * (x.l.length / 2 - 2) + 4 ∧ x.l.length / 2 - 2 ≤ 12 := by
      unfold ge at h
      split at h
      · cases h
      · split at h
        · cases h
        · omega
    exact gets_good x _ h2.1 h2.2 w hx tb
  · exact gets_bad x hm h w

set_option maxRecDepth 100000 in
theorem trellisGets_lifted (os : Os) (started : os.Started) (H : Type) (enc : TypeId × Value → H) :
    ReturnsInHanded {} Tryd.checked os 3 .any (fun w args => (Rows.trellisGetsSpec.pre enc Tryd.prog Tryd.f3 [] false w args ∧ laidMetH Tryd.prog Rows.trellisGetsRow.laid w) ∧ sizedMet enc Tryd.prog Tryd.f3 (OpenSpec.ofChange Rows.trellisGetsSpec) false w args)
      (Rows.trellisGetsSpec.post enc Tryd.prog Tryd.f3 false true false false) := by
  refine returnsInHanded_of_change_and (C := Tryd.checked) (X := fun w _ => laidMetH Tryd.prog Rows.trellisGetsRow.laid w) (fun _ _ _ hh h => h.of_heap hh) own started (by kernel_rfl) Tryd.func3
    (ChangeSpec.witness_shaped (enc := enc) (C := Tryd.checked) (os := os) (X := fun w _ => laidMetH Tryd.prog Rows.trellisGetsRow.laid w) false (World.doorLaid Tryd.prog 400 os) #[.slice none 0 0] 8 rfl (World.shaped_of_RefB (by kernel_rfl) (by kernel_rfl)) (by kernel_rfl) (by kernel_rfl) (by kernel_rfl) (door_met os _)) ?_
  intro W base args ds gs before hval0 hW _ _ hL _
  have hval : ∀ (j : Nat) t v, Tryd.f3.params[j]? = some t → args[j]? = some v → Value.okWide Tryd.prog W .any base t v := hval0
  have hW' := hW
  obtain ⟨p, q, hA0, hV, rfl, hfz, hnd⟩ := hW
  have hA : DataW.TrodAll enc Tryd.prog W 0 (fun _ => true) true Tryd.f3.params.toList args.toList ds p := hA0
  rw [Tryd.params3] at hA hval
  obtain ⟨v0, vs0, d0, ds0, p0, q0, hargs, rfl, rfl, h0, r0⟩ := trodAll_cons hA
  obtain ⟨rfl, rfl, rfl⟩ := trodAll_nil r0
  obtain rfl : args = #[v0] := by cases args; simp_all
  obtain ⟨rfl, rfl⟩ := trodVars_none hV
  have lt0 : ∀ x ∈ p0, x.block < W.heap.size := by obtain ⟨m, hm⟩ := h0; exact DataW.trod_lt m _ _ _ hm
  obtain ⟨x0, rfl, w0⟩ := open_word (hval 0 22 v0 rfl rfl) h0
  clear hA0 hval0
  refine (gets_walk x0 W w0 (of_laid hL)).mono fun e W' ⟨he, bel⟩ => ?_
  subst he
  exact ⟨_, rfl, _, _, _, [], _, [], hW', trodAll_mk1 (shut_bool Tryd.underlying4 _), (trodAll_cons_mk (Below.trod laidOut (by kernel_rfl) (of_decide_eq_true (by kernel_rfl)) h0 bel lt0) trodAll_mk0), rfl, bel.frame _, fun h => by cases h⟩

theorem trellisGets_holds : Rows.TrellisGetsSaid :=
  OpenClaim.holds_of_wide 3 Tryd.f3 rfl rfl rfl rfl rfl rfl rfl ⟨rfl, rfl, rfl, rfl, rfl⟩ rfl rfl rfl rfl rfl (by kernel_rfl) Tryd.func3 (by kernel_rfl)
    (of_decide_eq_true (by kernel_rfl)) (by unfold Func.isWrapper; first | (rw [if_pos (by decide +kernel)]; kernel_rfl) | (rw [if_neg (by decide +kernel)]; exact ⟨rfl, rfl⟩))
    (fun os started H enc _ => trellisGets_lifted os started H enc)

/-- The tied card. -/
theorem trellisGets_card : Rows.TrellisGetsCardSaid :=
  Claim7.holds_tied_plain_at .later [] [.data] true (true, "4dce6ce86a23a33e5b90866702ab56aa573dd357c2acd13007792282d0b4d084") false
    trellisGets_holds (fun _ h => by cases h) (by kernel_rfl) (fun _ h => by cases h) trellisGets_row_tie rfl ⟨rfl, rfl⟩ (by kernel_rfl) rfl
    (fun f fn hf hfn => by
      obtain rfl : f = 3 := Option.some.inj ((show Tryd.prog.funcNamed "quipu/quipulaw.TrellisGets" = some 3 by kernel_rfl).symm.trans hf) |>.symm
      obtain rfl : fn = Tryd.f3 := (Option.some.inj (Tryd.func3.symm.trans hfn)).symm
      exact ⟨by kernel_rfl, fun j t ht => by
        rw [Tryd.params3] at ht
        have hm : t ∈ [22] := by simpa using Array.mem_of_getElem? ht
        have hall : ([22].all fun u => !Tryd.prog.wantsStandIn u) = true := by kernel_rfl
        exact (show Tryd.prog.wantsStandIn t = false by simpa using List.all_eq_true.1 hall t hm)⟩)
    (by kernel_rfl)

#print axioms trellisGets_card

end Go.Proofs.YtnkhlohoaoiefaaDoor
