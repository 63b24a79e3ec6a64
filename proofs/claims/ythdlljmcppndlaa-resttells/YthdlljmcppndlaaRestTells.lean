/-
  For any polynomial and any bits the program tells what is left: RestTells returns true for every number and every list of bits, and changes nothing.
-/
import Derived.Test.YthdlljmcppndlaaOpen
import Derived.Test.YthdlljmcppndlaaFac
import Derived.Test.YthdlljmcppndlaaRf
import Derived.Test.YthdlljmcppndlaaEq
import Derived.ProofKit
namespace Go.Proofs.Ythdlljmcppndlaa
open Go.ChangeShapes Go.WideShapes Go.ChangeAt Go.RowKit Go.Deep
set_option linter.unusedVariables false

theorem u32_of {x : Int} (h : (Lit.int .u32 x).wf = true) : 0 ≤ x ∧ x < 4294967296 := by
  have b : IntKind.u32.min = 0 ∧ IntKind.u32.max = 4294967295 := by decide
  simp only [Lit.wf, b, Bool.and_eq_true, decide_eq_true_eq] at h
  omega

theorem restTells_bad (g : Nat) (hg : g < 4294967296) (x : Wd) (c : Int) (hc : rce g x.l.length = c) (h : c ≠ 0) (w : World) : Calls Try.prog 3 #[.int .u32 g, x.v] w fun e w' => e = .returned (.bool true) ∧ Ext w w' := by
  have c1 := Rest_bad g hg x c hc h w
  have c2 := refCheck_any g hg x.a x.l.length x.c w
  rw [hc] at c2
  have hb : (c != 0) = true := bne_iff_ne.2 h
  have hb2 : (c == 0) = false := beq_eq_false_iff_ne.2 h
  clear hc
  simp only [Wd.v] at *
  generalize x.l.length = n at *
  go_enter Try.func3, Try.ntmps3
  go_wp2_with fail
  refine c1.mono ?_
  rintro e w1 ⟨rfl, rfl⟩
  clear c1
  go_wp2_with fail
  refine c2.mono ?_
  rintro e w1 ⟨rfl, rfl⟩
  clear c2
  go_wp2
  go_ret
  exact ⟨rfl, Ext.refl _⟩

theorem restTells_good (g : Nat) (hG : G g) (x : Wd) (h : rce g x.l.length = 0) (hl : x.l.length ≤ 64) (w : World) (hx : Bits w x) : Calls Try.prog 3 #[.int .u32 g, x.v] w fun e w' => e = .returned (.bool true) ∧ Ext w w' := by
  have hg1 : g ≤ 131071 := hG.2.2
  have c1 := Rest_good g x hG hl h w hx
  have c2 := refCheck_any g (by omega) x.a x.l.length x.c w
  rw [h] at c2
  have c3 := refRest_any g hG x (by omega) w hx
  clear h hx
  simp only [Wd.v] at *
  generalize rs g x.l = r at *
  generalize x.l.length = n at *
  go_enter Try.func3, Try.ntmps3
  go_wp2_with fail
  refine c1.mono ?_
  rintro e w1 ⟨rfl, rfl⟩
  clear c1
  go_wp2_with fail
  refine c2.mono ?_
  rintro e w1 ⟨rfl, rfl⟩
  clear c2
  go_wp2_with fail
  refine c3.mono ?_
  rintro e w3 ⟨rfl, E⟩
  have E' : Hid (Ext w1 w3) := E
  clear c3 E
  go_wp2
  go_ret
  exact ⟨rfl, E'.out⟩

theorem restTells_walk (q : Int) (hq : (Lit.int .u32 q).wf = true) (x : Wd) (w : World) (hx : Bits w x) : Calls Try.prog 3 #[.int .u32 q, x.v] w fun e w' => e = .returned (.bool true) ∧ Ext w w' := by
  have hq' := u32_of hq
  obtain ⟨g, rfl⟩ : ∃ g : Nat, q = g := ⟨q.toNat, by omega⟩
  have hg : g < 4294967296 := by omega
  rcases rce_cases g x.l.length with h | h | ⟨h, hG, hl⟩
  · exact restTells_bad g hg x 4 h (by decide) w
  · exact restTells_bad g hg x 1 h (by decide) w
  · exact restTells_good g hG x h hl w hx

set_option maxRecDepth 100000 in
theorem restTells_lifted (os : Os) (started : os.Started) (H : Type) (enc : TypeId × Value → H) :
    ReturnsInHanded {} Try.checked os 3 .any (Rows.restTellsSpec.pre6 enc Try.prog Try.f3 Rows.restTellsRow.domain false) (Rows.restTellsSpec.post enc Try.prog Try.f3 false true false false) := by
  refine returnsInHanded_of_change (C := Try.checked) own started (by kernel_rfl) Try.func3
    (ChangeSpec.witness6 (enc := enc) (C := Try.checked) false ⟨#[], #[.int .u32 0, .slice none 0 0], []⟩ 8 (by kernel_rfl) (by kernel_rfl) (by kernel_rfl) (by kernel_rfl)) ?_
  intro W base args ds gs before hval0 hW _ _
  have hval : ∀ (j : Nat) t v, Try.f3.params[j]? = some t → args[j]? = some v → Value.okWide Try.prog W .any base t v := hval0
  have hW' := hW
  obtain ⟨p, q, hA0, hV, rfl, hfz, hnd⟩ := hW
  have hA : DataW.TrodAll enc Try.prog W 0 (fun _ => true) true Try.f3.params.toList args.toList ds p := hA0
  rw [Try.params3] at hA hval
  obtain ⟨v0, vs0, d0, ds0, p0, q0, hargs, rfl, rfl, h0, r0⟩ := trodAll_cons hA
  obtain ⟨v1, vs1, d1, ds1, p1, q1, rfl, rfl, rfl, h1, r1⟩ := trodAll_cons r0
  obtain ⟨rfl, rfl, rfl⟩ := trodAll_nil r1
  obtain rfl : args = #[v0, v1] := by cases args; simp_all
  obtain ⟨rfl, rfl⟩ := trodVars_none hV
  have lt0 : ∀ x ∈ p0, x.block < W.heap.size := by obtain ⟨m, hm⟩ := h0; exact DataW.trod_lt m _ _ _ hm
  obtain ⟨x0, rfl, -, -, wf0⟩ := open_int Try.underlying22 (hval 0 22 v0 rfl rfl) h0
  have lt1 : ∀ x ∈ p1, x.block < W.heap.size := by obtain ⟨m, hm⟩ := h1; exact DataW.trod_lt m _ _ _ hm
  obtain ⟨x1, rfl, w1⟩ := open_word (hval 1 23 v1 rfl rfl) h1
  clear hA0 hval0
  refine (restTells_walk x0 wf0 x1 W w1).mono fun e W' ⟨he, bel⟩ => ?_
  subst he
  exact ⟨_, rfl, _, _, _, [], _, [], hW', trodAll_mk1 (shut_bool Try.underlying4 _), (trodAll_cons_mk (Below.trod laidOut (by kernel_rfl) (of_decide_eq_true (by kernel_rfl)) h0 bel lt0) (trodAll_cons_mk (Below.trod laidOut (by kernel_rfl) (of_decide_eq_true (by kernel_rfl)) h1 bel lt1) trodAll_mk0)), rfl, bel.frame _, fun h => by cases h⟩

theorem restTells_holds : Rows.RestTellsSaid :=
  OpenClaim.holds_of_wide 3 Try.f3 rfl rfl rfl rfl rfl rfl rfl ⟨rfl, rfl, rfl, rfl, rfl⟩ rfl rfl rfl rfl rfl (by kernel_rfl) Try.func3 (by kernel_rfl)
    (of_decide_eq_true (by kernel_rfl)) (by unfold Func.isWrapper; rw [if_neg (of_decide_eq_false (by kernel_rfl))]; exact ⟨rfl, rfl⟩)
    (fun os started H enc _ => restTells_lifted os started H enc)

#print axioms restTells_holds

end Go.Proofs.Ythdlljmcppndlaa
