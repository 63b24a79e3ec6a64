/-
  leader.leaders: a map from marks to leaders that the call makes.
-/
import Derived.Test.YtiflbjbcagdlaaaMo
import Derived.Maps.OwnSet
import Derived.Maps.OwnOps
namespace Go.Proofs.Ytiflbjbcagdlaaa
open Go.RowKit Go.Maps
set_option linter.unusedVariables false

theorem law23 : Keyed Try.prog 23 := int_keyed Try.underlying23
theorem zero23 (w : World) : (zeroValue 23).run Try.prog w = .ok (.int .u32 0) w := by kernel_rfl
theorem under41 : Try.prog.underlying 41 = some (.map 23 23) := by kernel_rfl
theorem u32_wf {x : Nat} (h : x < 4294967296) : (Lit.int .u32 (x : Int)).wf = true := by
  simp only [Lit.wf, u32_ends, Bool.and_eq_true, decide_eq_true_eq]
  omega

/-- The block is a map that tells each mark's leader among the words below k. -/
def LM (f : Nat → Nat) (w : World) (B k : Nat) : Prop :=
  ∃ (n : Nat) (D : DataW Unit), n ≤ k ∧ w.ownsMap Try.prog 23 (plainElem Try.prog 23) B n D ∧
    ∀ m : Nat, D.atKey (.int .u32 (m : Int)) (.lit (.int .u32 0)) = .lit (.int .u32 (((bst f m k).getD 0 : Nat) : Int)) ∧ Maps.has D (.int .u32 (m : Int)) = (bst f m k).isSome

theorem LM.made (f : Nat → Nat) (w : World) : LM f (w.alloc (.map #[] 0)) w.heap.size 0 :=
  ⟨0, .map [], Nat.le_refl _, World.ownsMap_made _ _ _ _, fun m => ⟨by simp [DataW.atKey, bst], by simp [Maps.has, bst]⟩⟩

theorem LM.ext {f : Nat → Nat} {w w' : World} {B k : Nat} (h : LM f w B k) (e : Ext w w') : LM f w' B k := by
  obtain ⟨n, D, hn, ⟨es, cl, hb, r⟩, h2⟩ := h
  exact ⟨n, D, hn, ⟨es, cl, by rw [e.block B (lt_of_block hb)]; exact hb, r⟩, h2⟩

theorem LM.stay {f : Nat → Nat} {w : World} {B k : Nat} (h : LM f w B k) (hs : bst f (f k) (k + 1) = bst f (f k) k) : LM f w B (k + 1) := by
  obtain ⟨n, D, hn, ho, h2⟩ := h
  refine ⟨n, D, by omega, ho, fun m => ?_⟩
  have e : bst f m (k + 1) = bst f m k := by
    by_cases hm : f k = m
    · rw [← hm]; exact hs
    · exact bst_other hm
  rw [e]
  exact h2 m

theorem wpList_look {ops : Array Oper} {rest : List Oper} {o : Oper} {a : Act} {Q : Exit → Act → World → Prop} (hg : o.guard = none) (m x : Operand) (hop : o.op = Op.lookup 41 m x true)
    (w : World) (f : Nat → Nat) (B k : Nat) (hm : a.eval m = .map (some B)) (hL : LM f w B k) (q : Nat) (hq : q < 4294967296) (hx : a.eval x = .int .u32 (q : Int)) (l : Nat) (b : Bool) (hl : (bst f q k).getD 0 = l) (hb : (bst f q k).isSome = b)
    (hK : wpList Try.prog ops Q rest (a.put o.dst (.tuple #[.int .u32 (l : Int), .bool b])) w) : wpList Try.prog ops Q (o :: rest) a w := by
  obtain ⟨n, D, hn, ho, h2⟩ := hL
  refine wpList_lookup_own_ok_int w hg m x 41 hop 23 23 .u32 law23 under41 Try.underlying23 (zero23 _) B n D hm ho _ _ hx (keyOf_int_mk Try.underlying23 (u32_wf hq)) ?_
  intro c hat _
  rw [(h2 q).1, hl] at hat
  have : (l : Int) = c := by
    injection hat with hat
    injection hat
  rw [(h2 q).2, hb, ← this]
  exact hK

theorem wpList_look1 {ops : Array Oper} {rest : List Oper} {o : Oper} {a : Act} {Q : Exit → Act → World → Prop} (hg : o.guard = none) (m x : Operand) (hop : o.op = Op.lookup 41 m x false)
    (w : World) (f : Nat → Nat) (B k : Nat) (hm : a.eval m = .map (some B)) (hL : LM f w B k) (q : Nat) (hq : q < 4294967296) (hx : a.eval x = .int .u32 (q : Int)) (l : Nat) (hl : (bst f q k).getD 0 = l)
    (hK : wpList Try.prog ops Q rest (a.put o.dst (.int .u32 (l : Int))) w) : wpList Try.prog ops Q (o :: rest) a w := by
  obtain ⟨n, D, hn, ho, h2⟩ := hL
  refine wpList_lookup_own_int w hg m x 41 hop 23 23 .u32 law23 under41 Try.underlying23 (zero23 _) B n D hm ho _ _ hx (keyOf_int_mk Try.underlying23 (u32_wf hq)) ?_
  intro c hat _
  rw [(h2 q).1, hl] at hat
  have : (l : Int) = c := by
    injection hat with hat
    injection hat
  rw [← this]
  exact hK

theorem wpList_putL {ops : Array Oper} {rest : List Oper} {o : Oper} {a : Act} {Q : Exit → Act → World → Prop} (hg : o.guard = none) (m x v : Operand) (hop : o.op = Op.mapUpdate 41 m x v)
    (w0 w : World) (f : Nat → Nat) (B k : Nat) (hm : a.eval m = .map (some B)) (hL : LM f w B k) (hk : k < 4294967296) (q : Nat) (hq : q < 4294967296) (hf : f k = q) (hs : bst f q (k + 1) = some k) (hx : a.eval x = .int .u32 (q : Int)) (hv : a.eval v = .int .u32 (k : Int))
    (he : Ext w0 w) (hB : w0.heap.size ≤ B)
    (hK : ∀ w', LM f w' B (k + 1) → Ext w0 w' → wpList Try.prog ops Q rest (a.put o.dst undef) w') : wpList Try.prog ops Q (o :: rest) a w := by
  obtain ⟨n, D, hn, ho, h2⟩ := hL
  refine wpList_mapUpdate_own w hg m x v 41 hop 23 23 law23 under41 _ B n D hm ho (by unfold maxLen; omega) _ _ _ hx hv (keyOf_int_mk Try.underlying23 (u32_wf hq)) _ [] (plainElem_int Try.underlying23 (u32_wf hk)) ?_
  intro w' h3 h4
  refine hK w' ⟨n + 1, _, by omega, h3, fun c => ?_⟩ (Below.grown he h4 he.size (fun k hk => by injection hk with hk; omega))
  by_cases hc : c = q
  · subst hc
    rw [hs, atKey_put_same ho.isMap (law23.key (keyOf_int_mk Try.underlying23 (u32_wf hq))), has_put_same ho.isMap (law23.key (keyOf_int_mk Try.underlying23 (u32_wf hq)))]
    exact ⟨rfl, rfl⟩
  · have hne : (Lit.int .u32 (c : Int)) ≠ .int .u32 (q : Int) := by
      intro e
      injection e with _ e
      exact hc (by omega)
    rw [atKey_put_other hne, has_put_other hne, (h2 c).1, (h2 c).2, bst_other (by rw [hf]; exact fun e => hc e.symm)]
    exact ⟨rfl, rfl⟩

end Go.Proofs.Ytiflbjbcagdlaaa
