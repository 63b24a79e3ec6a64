/-
  Regions that draw their order: an operation whose guard is not met may be passed by first.
-/
import Derived.Test.YtglajpmifhecgaaMix
namespace Go.Proofs.Ytglajpmifhecgaa
open Go.RowKit

section
variable {P : Program} {ops : Array Oper} {md : Region.Mode} {C : World → Prop}

/-- An operation whose guard is not met. -/
theorem mOp_not {i : Nat} {o : Oper} {K : Act → World → Prop} {a : Act} {w : World} (hi : ops[i]? = some o) (hw : Region.wanted o (yielded ops a.tmps) = false)
    (h : K (a.put o.dst undef) w) : mOp P ops i K a w := by
  unfold mOp; simp only [hi, hw]; exact h

theorem mOp_pass {j : Nat} {oi oj : Oper} (hj : ops[j]? = some oj) (hap : oi.apart ops oj = true)
    (hsj : ∀ cs b, oj.op ≠ .select cs b) {K : Act → World → Prop} {a : Act} {w : World}
    (hy : Region.wanted oi (yielded ops a.tmps) = false) (h : mOp P ops j K (a.put oi.dst undef) w) :
    mOp P ops j (fun a' w' => Region.wanted oi (yielded ops a'.tmps) = false ∧ K (a'.put oi.dst undef) w') a w := by
  obtain ⟨h1, h2, h3⟩ := Oper.apart_spec hap
  have keep : ∀ (a : Act), Region.wanted oi (yielded ops a.tmps) = false → ∀ u, Region.wanted oi (yielded ops (a.put oj.dst u).tmps) = false := fun a hy u => by
    rw [wanted_put oi a oj.dst u h3]; exact hy
  unfold mOp at *
  simp only [hj] at *
  rw [wanted_put oj a oi.dst undef h1] at h
  split
  · rename_i hw
    simp only [hw, if_true] at h
    rw [execOp_put oj hsj a oi.dst undef h1] at h
    generalize (execOp a.eval oj).run P w = r at *
    cases r with
    | ok n w' =>
      cases n <;> simp only [mUpon] at h ⊢
      case value u => exact ⟨keep a hy u, by rw [← Act.put_comm a undef u h2]; exact h⟩
      case skip => exact ⟨keep a hy _, by rw [← Act.put_comm a undef undef h2]; exact h⟩
      case enter f args =>
        refine Calls.mono h fun e w'' ⟨u, he, hk⟩ => ?_
        exact ⟨u, he, keep a hy u, by rw [← Act.put_comm a undef u h2]; exact hk⟩
    | halt x w' => simp only [mUpon] at h
  · rename_i hw
    simp only [hw] at h
    exact ⟨keep a hy _, by rw [← Act.put_comm a undef undef h2]; exact h⟩

theorem wpMix_pass_first {Q : Act → World → Prop} {i : Nat} {oi : Oper} (hi : ops[i]? = some oi) (hsel : ∀ (j : Nat) (o : Oper) cs b, ops[j]? = some o → o.op ≠ .select cs b) :
    ∀ (fuel : Nat) (listed : Array Bool) (a : Act) (w : World),
      (∀ j oj, ops[j]? = some oj → j ≠ i → listed.getD j true = false → (∀ e ∈ oj.after, Region.binds md e = true → e.on ≠ i) → oi.apart ops oj = true) →
      i ∈ Region.ready md ops listed → Region.wanted oi (yielded ops a.tmps) = false →
      wpMix P md ops C Q fuel (listed.setIfInBounds i true) (a.put oi.dst undef) w → wpMix P md ops C Q (fuel + 1) listed a w := by
  intro fuel
  induction fuel with
  | zero =>
    intro listed a w _ hr hy H
    refine ⟨wpMix_class H, fun h => (by rw [h] at hr; cases hr), fun j hj => ?_⟩
    by_cases hji : j = i
    · subst hji; exact mOp_not hi hy H
    · have := ready_mono hj hji
      rw [H.2.1] at this
      cases this
  | succ fuel ih =>
    intro listed a w hfree hr hy H
    refine ⟨wpMix_class H, fun h => (by rw [h] at hr; cases hr), fun j hj => ?_⟩
    by_cases hji : j = i
    · subst hji; exact mOp_not hi hy H
    · have h1 := H.2.2 j (ready_mono hj hji)
      obtain ⟨hjun, oj, hoj, hall⟩ := mem_ready.1 hj
      have hnot : ∀ e ∈ oj.after, Region.binds md e = true → e.on ≠ i := fun e he hb heq => by
        have h1 := hall e he hb
        have h0 := (mem_ready.1 hr).1
        rw [heq] at h1
        rcases Nat.lt_or_ge i listed.size with h' | h'
        · simp [h'] at h0 h1; rw [h0] at h1; cases h1
        · simp [Array.getElem?_eq_none h'] at h1
      have h2 := mOp_pass hoj (hfree j oj hoj hji hjun hnot) (fun cs b => hsel j oj cs b hoj) hy h1
      have hfree' : ∀ k ok, ops[k]? = some ok → k ≠ i → (listed.setIfInBounds j true).getD k true = false →
          (∀ e ∈ ok.after, Region.binds md e = true → e.on ≠ i) → oi.apart ops ok = true := fun k ok hk hki hun hno => by
        refine hfree k ok hk hki ?_ hno
        by_cases hjk : j = k
        · subst hjk; exact hjun
        · rw [getD_set_ne true hjk] at hun; exact hun
      refine mOp_mono (fun a' w' h3 => ih (listed.setIfInBounds j true) a' w' hfree' (ready_mono hr (Ne.symm hji)) h3.1 ?_) h2
      rw [Array.setIfInBounds_comm _ _ hji]
      exact h3.2

/-- An operation whose guard is not met is passed by first. -/
theorem wpMix_pass {Q : Act → World → Prop} (i : Nat) {oi : Oper} {fuel : Nat} {listed : Array Bool} {a : Act} {w : World} (hi' : ops.toList[i]? = some oi)
    (hB : (Region.noSelect ops && Region.free md ops listed i && (Region.ready md ops listed).contains i) = true) (hy : Region.wanted oi (yielded ops a.tmps) = false)
    (h : wpMix P md ops C Q fuel (listed.setIfInBounds i true) (a.put oi.dst undef) w) : wpMix P md ops C Q (fuel + 1) listed a w := by
  have hi : ops[i]? = some oi := by rw [← Array.getElem?_toList]; exact hi'
  simp only [Bool.and_eq_true] at hB
  exact wpMix_pass_first hi (Region.noSelect_spec hB.1.1) fuel listed a w (Region.free_spec hi hB.1.2) (by simpa using hB.2) hy h
theorem wpMix_call {Q : Act → World → Prop} (i : Nat) {o : Oper} {fuel : Nat} {listed : Array Bool} {a : Act} {w w' : World} (f : FuncId) (args : Array Value) (hr : Region.ready md ops listed = [i]) (hC : C w) (hi' : ops.toList[i]? = some o)
    (hw : Region.wanted o (yielded ops a.tmps) = true) (hrun : (execOp a.eval o).run P w = .ok (.enter f args) w')
    (h : Calls P f args w' fun e w'' => ∃ v, e = .returned v ∧ wpMix P md ops C Q fuel (listed.setIfInBounds i true) (a.put o.dst v) w'') : wpMix P md ops C Q (fuel + 1) listed a w :=
  wpMix_only i hr hC (mOp_call hi' hw hrun h)
end
end Go.Proofs.Ytglajpmifhecgaa
