/-
  For any bits the program tells the number with whose Gamma they begin, or that there is none: EliasReadsGamma returns true for every list of bits, and changes nothing.
-/
import Derived.Test.YtenpinjbeejamaaOpen
import Derived.Test.YtenpinjbeejamaaRfr2
namespace Go.Proofs.Ytenpinjbeejamaa
open Go.ChangeShapes Go.WideShapes Go.ChangeAt Go.RowKit Go.Deep
set_option linter.unusedVariables false

set_option maxHeartbeats 2000000 in
theorem eliasReadsGamma_walk (x : Wd) (w : World) (hx : Bits w x) (hlen : x.l.length ≤ 140737488355328) : Calls Try.prog 5 #[x.v] w fun e w' => e = .returned (.bool true) ∧ Ext w w' := by
  have h1 := readGamma_any x w hx
  have h2 : Hid (∀ W, W = w → Calls Try.prog 15 #[x.v, .bool false] W fun e w' => e = .returned (rw2 (rdG x.l)) ∧ Ext w w') := fun W e => (refReadGamma_any x W (e ▸ hx) hlen).mono fun e' w' h => ⟨h.1, by rw [h.2, e]; exact Ext.refl _⟩
  have hp : ∀ p, rdG x.l = some p → p.2 ≠ 0 := fun p hp => by
    have := (rdG_some (n := p.1) (e := p.2) hp).2.2.1
    omega
  clear hx hlen
  obtain ⟨xa, xc, xl⟩ := x
  simp only [Wd.v] at *
  cases hr : rdG xl with
  | none =>
    rw [hr] at h1 h2
    simp only [rv, rw2] at h1 h2
    clear hp hr
    generalize xl.length = n at *
    go_enter Try.func5, Try.ntmps5
    go_wp2_with fail
    refine h1.mono ?_
    rintro e w1 ⟨rfl, rfl⟩
    clear h1
    go_wp2_with fail
    refine (h2.out _ rfl).mono ?_
    rintro e w2 ⟨rfl, hE⟩
    have HE : Hid (Ext w1 w2) := hE
    clear h2 hE
    go_wp2
    go_ret
    exact ⟨rfl, HE.out⟩
  | some p =>
    obtain ⟨v, u⟩ := p
    have hu : ((u : Int) == 0) = false := by
      have := hp _ hr
      simp only at this
      simp only [beq_eq_false_iff_ne]
      omega
    rw [hr] at h1 h2
    simp only [rv, rw2] at h1 h2
    clear hp hr
    generalize xl.length = n at *
    go_enter Try.func5, Try.ntmps5
    go_wp2_with fail
    refine h1.mono ?_
    rintro e w1 ⟨rfl, rfl⟩
    clear h1
    go_wp2_with fail
    refine (h2.out _ rfl).mono ?_
    rintro e w2 ⟨rfl, hE⟩
    have HE : Hid (Ext w1 w2) := hE
    clear h2 hE
    go_wp2
    go_ret
    exact ⟨rfl, HE.out⟩

set_option maxRecDepth 100000 in
theorem eliasReadsGamma_lifted (os : Os) (started : os.Started) (H : Type) (enc : TypeId × Value → H) :
    ReturnsInHanded {} Try.checked os 5 .any (Rows.eliasReadsGammaSpec.pre6 enc Try.prog Try.f5 Rows.eliasReadsGammaRow.domain false) (Rows.eliasReadsGammaSpec.post enc Try.prog Try.f5 false true false false) := by
  refine returnsInHanded_of_change_sized (C := Try.checked) own started (by kernel_rfl) Try.func5
    (ChangeSpec.witness6 (enc := enc) (C := Try.checked) false ⟨#[], #[.slice none 0 0], []⟩ 8 (by kernel_rfl) (by kernel_rfl) (by kernel_rfl) (by kernel_rfl)) ?_
  intro W base args ds gs before hval0 hW _ hsz0 _
  have hval : ∀ (j : Nat) t v, Try.f5.params[j]? = some t → args[j]? = some v → Value.okWide Try.prog W .any base t v := hval0
  have hW' := hW
  obtain ⟨p, q, hA0, hV, rfl, hfz, hnd⟩ := hW
  have hA : DataW.TrodAll enc Try.prog W 0 (fun _ => true) true Try.f5.params.toList args.toList ds p := hA0
  have hsz : (DataW.weightsEach Try.prog (Try.f5.params.toList ++ Rows.eliasReadsGammaSpec.plain.varTypes Try.prog) (ds ++ gs)).all (· ≤ reachBytes) = true := hsz0
  rw [Try.params5] at hA hval hsz
  obtain ⟨v0, vs0, d0, ds0, p0, q0, hargs, rfl, rfl, h0, r0⟩ := trodAll_cons hA
  obtain ⟨rfl, rfl, rfl⟩ := trodAll_nil r0
  obtain rfl : args = #[v0] := by cases args; simp_all
  obtain ⟨rfl, rfl⟩ := trodVars_none hV
  have lt0 : ∀ x ∈ p0, x.block < W.heap.size := by obtain ⟨m, hm⟩ := h0; exact DataW.trod_lt m _ _ _ hm
  obtain ⟨x0, rfl, w0, z0⟩ := open_word_sized (hval 0 22 v0 rfl rfl) h0
  have b0 : x0.l.length * 1 ≤ reachBytes := by
    rcases z0 with z | ⟨es, sp, rfl, hes⟩
    · rw [z]; simp [reachBytes]
    · have := sized_slice hsz (j := 0) (t := 22) (e := 4) rfl rfl Try.underlying22
      rw [bytes4] at this
      omega
  clear hA0 hval0
  refine (eliasReadsGamma_walk x0 W w0 (by unfold reachBytes at b0; omega)).mono fun e W' ⟨he, bel⟩ => ?_
  subst he
  exact ⟨_, rfl, _, _, _, [], _, [], hW', trodAll_mk1 (shut_bool Try.underlying4 _), (trodAll_cons_mk (Below.trod laidOut (by kernel_rfl) (of_decide_eq_true (by kernel_rfl)) h0 bel lt0) trodAll_mk0), rfl, bel.frame _, fun h => by cases h⟩

theorem eliasReadsGamma_holds : Rows.EliasReadsGammaSaid :=
  OpenClaim.holds_of_wide 5 Try.f5 rfl rfl rfl rfl rfl rfl rfl ⟨rfl, rfl, rfl, rfl, rfl⟩ rfl rfl rfl rfl rfl (by kernel_rfl) Try.func5 (by kernel_rfl)
    (of_decide_eq_true (by kernel_rfl)) (by unfold Func.isWrapper; rw [if_neg (of_decide_eq_false (by kernel_rfl))]; exact ⟨rfl, rfl⟩)
    (fun os started H enc _ => eliasReadsGamma_lifted os started H enc)

#print axioms eliasReadsGamma_holds

end Go.Proofs.Ytenpinjbeejamaa
