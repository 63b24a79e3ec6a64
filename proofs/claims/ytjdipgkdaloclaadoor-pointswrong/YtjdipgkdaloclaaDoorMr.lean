/-
  The same for a region within a round of a loop over a function.
-/
import Derived.Test.YtjdipgkdaloclaaDoorMx
import Derived.RangeFuncCalls
import Derived.OrdersIn
namespace Go.Proofs.YtjdipgkdaloclaaDoor
open Go.RowKit

section
variable {P : Program} {ops : Array Oper} {C : World → Prop}

/-- No operation lays up a call for later. -/
def noDefer (ops : Array Oper) : Bool := ops.all fun o => match o.op with | .defer _ => false | _ => true
theorem noDefer_spec {i : Nat} {o : Oper} (h : noDefer ops = true) (ho : ops[i]? = some o) (c : Call) : o.op ≠ .defer c := by
  intro e
  obtain ⟨hi, hoi⟩ := Array.getElem?_eq_some_iff.1 ho
  have := Array.all_eq_true.1 h i hi
  rw [hoi, e] at this
  cases this

theorem wpOpIn_of_xOp {l n : Nat} {Q' : Exit → Act → World → Prop} {i : Nat} {a : Act} {w : World} {K : Act → World → Prop} (hd : noDefer ops = true) (hh : xOp P ops i K a w) : wpOpIn (Fence.wide.inRound l) n P ops Q' i K a w := by
  unfold xOp at hh
  unfold wpOpIn
  split
  · rename_i ho; simpa only [ho] using hh
  · rename_i o ho
    simp only [ho] at hh
    split
    · rename_i hw
      simp only [hw, if_true] at hh
      refine ⟨fun _ _ => trivial, ?_⟩
      rw [Oper.semAt_eq _ _ _ (noDefer_spec hd ho)]
      generalize (execOp a.eval o).run P w = r at *
      cases r with
      | ok nx w' =>
        cases nx <;> simp only [xUpon] at hh <;> simp only [Oper.uponIn]
        case value u => exact hh
        case skip => exact hh
        case enter f args =>
          refine ⟨fun h => (by cases h), ?_⟩
          exact CallsIn.inRound l (callsIn_wide.2 (hh.mono fun e w'' ⟨v, he, hk⟩ => by subst he; exact hk))
      | halt x w' => simp only [xUpon] at hh
    · rename_i hw
      simp only [hw] at hh
      exact ⟨fun _ _ => trivial, hh⟩

theorem wpAnyIn_of_mx {l n : Nat} {Q : Act → World → Prop} {Q' : Exit → Act → World → Prop} (hd : noDefer ops = true) (hQ : ∀ a w, Q a w → Q' .normal a w) : ∀ (fuel : Nat) (listed : Array Bool) (a : Act) (w : World),
    wpMx P .any ops C Q fuel listed a w → wpAnyIn (Fence.wide.inRound l) n P .any ops Q' fuel listed a w
  | 0, _, _, _, h => ⟨h.2.1, hQ _ _ h.2.2⟩
  | fuel + 1, _, _, _, h => ⟨fun h0 => hQ _ _ (h.2.1 h0), fun i hi => wpOpIn_of_xOp hd (xOp_mono (fun a' w' => wpAnyIn_of_mx hd hQ fuel _ a' w') (h.2.2 i hi))⟩

theorem wpIn_region_mx {id l n : Nat} {Q : Exit → Act → World → Prop} {a : Act} {w : World} (C : World → Prop) (k : Nat) (hn : ops.size = k) (hm : P.follows .mixedOrders = true) (hd : noDefer ops = true)
    (h : wpMx P .any ops C (Q .normal) k (Array.replicate k false) a w.drew) : (Code.region id ops true).wpIn (Fence.wide.inRound l) n P Q a w := by
  subst hn
  exact wpIn_region_any hm (wpAnyIn_of_mx hd (fun _ _ h => h) _ _ _ _ h)

end
end Go.Proofs.YtjdipgkdaloclaaDoor
