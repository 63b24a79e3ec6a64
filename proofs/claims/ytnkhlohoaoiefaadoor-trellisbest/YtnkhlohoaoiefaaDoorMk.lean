/-
  A map from states to paths that the call makes.
-/
import Derived.Test.YtnkhlohoaoiefaaDoorVt
import Derived.Test.YtnkhlohoaoiefaaDoorApb
import Derived.Maps.OwnSet
import Derived.Maps.OwnOps
import Derived.DeepKeys4
namespace Go.Proofs.YtnkhlohoaoiefaaDoor
open Go.RowKit Go.Maps
set_option linter.unusedVariables false

theorem laidOut37 : laidOutB Tryd.prog = true := by kernel_rfl
theorem row37 : (37 : TypeId) < Tryd.prog.types.size := of_decide_eq_true (by kernel_rfl)
theorem wide37 : (match Tryd.prog.underlying 37 with | some (.array _ _) | some (.struct _) => true | _ => false) = true := by rw [underState]
theorem law37 : Keyed Tryd.prog 37 := Keyed.of_law (deep_law_laid laidOut37 (m := 2) (by omega) row37 (by kernel_rfl) wide37)
theorem under40 : Tryd.prog.underlying 40 = some (.map 37 39) := by kernel_rfl

/-- A path as a value. -/
abbrev pth (p : Nat × Nat) : Value := .agg #[.int .i64 (p.1 : Int), .int .i64 (p.2 : Int)]
theorem zero39 (w : World) : (zeroValue 39).run Tryd.prog w = .ok (pth (0, 0)) w := by kernel_rfl
/-- What it reads as. -/
def pd (p : Nat × Nat) : DataW Unit := .agg [.lit (.int .i64 (p.1 : Int)), .lit (.int .i64 (p.2 : Int))]
def pe : Value → Option (DataW Unit × List MemPlace)
  | .agg cs => match cs.toList with
    | [.int .i64 a, .int .i64 b] => some (.agg [.lit (.int .i64 a), .lit (.int .i64 b)], [])
    | _ => none
  | _ => none
theorem pe_mk (p : Nat × Nat) : pe (pth p) = some (pd p, []) := rfl
theorem pe_inv {v : Value} {p : Nat × Nat} {ps : List MemPlace} (h : pe v = some (pd p, ps)) : v = pth p := by
  unfold pe at h
  split at h
  · rename_i cs
    split at h
    · rename_i a b e
      injection h with h
      injection h with h1 _
      unfold pd at h1
      injection h1 with h1
      injection h1 with h2 h3
      injection h3 with h3 _
      injection h2 with h2
      injection h2 with _ h2
      injection h3 with h3
      injection h3 with _ h3
      subst h2 h3
      have : cs = #[.int .i64 (p.1 : Int), .int .i64 (p.2 : Int)] := by
        apply Array.toList_inj.1
        rw [e]
      rw [this]
    · cases h
  · cases h

theorem key_some : ∀ a b : Bool, (keyOf Tryd.prog 37 (pv a b)).isSome = true := by
  intro a b
  cases a <;> cases b <;> kernel_rfl
/-- What a state reads as, as a key. -/
noncomputable def kl (a b : Bool) : Lit := (keyOf Tryd.prog 37 (pv a b)).getD (.bool false)
theorem key_kl (a b : Bool) : keyOf Tryd.prog 37 (pv a b) = some (kl a b) := by
  have h := key_some a b
  unfold kl
  cases e : keyOf Tryd.prog 37 (pv a b) with
  | none => rw [e] at h; cases h
  | some l => rfl
theorem kl_inj {a b a' b' : Bool} (h : kl a b = kl a' b') : a = a' ∧ b = b' := by
  have h1 := key_kl a b
  have h2 := key_kl a' b'
  rw [h] at h1
  have := law37.inj h1 h2
  injection this with e
  simp at e
  exact e

/-- The block is a map that tells these paths. -/
def PM (w : World) (B c : Nat) (m : Mp) : Prop :=
  ∃ (n : Nat) (D : DataW Unit), n ≤ c ∧ w.ownsMap Tryd.prog 37 pe B n D ∧
    ∀ a b, D.atKey (kl a b) (pd (0, 0)) = pd ((m a b).getD (0, 0)) ∧ Maps.has D (kl a b) = (m a b).isSome

theorem PM.made (w : World) : PM (w.alloc (.map #[] 0)) w.heap.size 0 (fun _ _ => none) :=
  ⟨0, .map [], Nat.le_refl _, World.ownsMap_made _ _ _ _, fun a b => ⟨by simp [DataW.atKey], by simp [Maps.has]⟩⟩
theorem PM.ext {w w' : World} {B c : Nat} {m : Mp} (h : PM w B c m) (e : Ext w w') : PM w' B c m := by
  obtain ⟨n, D, hn, ⟨es, cl, hb, r⟩, h2⟩ := h
  exact ⟨n, D, hn, ⟨es, cl, by rw [e.block B (lt_of_block hb)]; exact hb, r⟩, h2⟩
theorem PM.mono {w : World} {B c c' : Nat} {m : Mp} (h : PM w B c m) (hc : c ≤ c') : PM w B c' m := by
  obtain ⟨n, D, hn, r⟩ := h
  exact ⟨n, D, by omega, r⟩
theorem PM.lt {w : World} {B c : Nat} {m : Mp} (h : PM w B c m) : B < w.heap.size := by
  obtain ⟨n, D, hn, ho, _⟩ := h
  exact ho.lt
/-- All but one row as it was. -/
theorem PM.setRow {w : World} {B c : Nat} {m : Mp} (h : PM w B c m) {C : Nat} (hne : B ≠ C) (r : Array Value) : PM (w.setRow C r) B c m := by
  obtain ⟨n, D, hn, ⟨es, cl, hb, q⟩, h2⟩ := h
  exact ⟨n, D, hn, ⟨es, cl, by rw [setRow_other w C B r hne]; exact hb, q⟩, h2⟩

theorem wpList_lookP {ops : Array Oper} {rest : List Oper} {o : Oper} {a : Act} {Q : Exit → Act → World → Prop} (hg : o.guard = none) (m x : Operand) (hop : o.op = Op.lookup 40 m x true)
    (w : World) (M : Mp) (B c : Nat) (hm : a.eval m = .map (some B)) (hL : PM w B c M) (p q : Bool) (hx : a.eval x = pv p q) (l : Nat × Nat) (b : Bool) (hl : (M p q).getD (0, 0) = l) (hb : (M p q).isSome = b)
    (hK : wpList Tryd.prog ops Q rest (a.put o.dst (.tuple #[pth l, .bool b])) w) : wpList Tryd.prog ops Q (o :: rest) a w := by
  obtain ⟨n, D, hn, ho, h2⟩ := hL
  refine wpList_lookup_own_ok w hg m x 40 hop 37 39 law37 under40 pe (zero39 _) (pd (0, 0)) [] (pe_mk _) B n D hm ho _ (kl p q) hx (key_kl p q) ?_
  intro v ps hv
  rw [(h2 p q).1, hl] at hv
  rw [pe_inv hv, (h2 p q).2, hb]
  exact hK
theorem wpList_lookP1 {ops : Array Oper} {rest : List Oper} {o : Oper} {a : Act} {Q : Exit → Act → World → Prop} (hg : o.guard = none) (m x : Operand) (hop : o.op = Op.lookup 40 m x false)
    (w : World) (M : Mp) (B c : Nat) (hm : a.eval m = .map (some B)) (hL : PM w B c M) (p q : Bool) (hx : a.eval x = pv p q) (l : Nat × Nat) (hl : (M p q).getD (0, 0) = l)
    (hK : wpList Tryd.prog ops Q rest (a.put o.dst (pth l)) w) : wpList Tryd.prog ops Q (o :: rest) a w := by
  obtain ⟨n, D, hn, ho, h2⟩ := hL
  refine wpList_plain hg fun K' hK' => ?_
  obtain ⟨v, ps, hrun, hv⟩ := ho.lookup law37 under40 (zero39 _) (pe_mk _) (key_kl p q)
  rw [(h2 p q).1, hl] at hv
  rw [pe_inv hv] at hrun
  unfold Oper.wp
  simp [execOp, hop, hm, hx, hrun, Result.andThen]
  exact hK' _ _ hK

theorem PM.put {w0 w : World} {M : Mp} {B c : Nat} (hL : PM w B c M) (hc : c < 1000) (p q : Bool) (l : Nat × Nat) (he : Ext w0 w) (hB : w0.heap.size ≤ B) :
    ∃ w', (Instr.mapUpdate 40 (.map (some B)) (pv p q) (pth l)).run Tryd.prog w = .ok () w' ∧ PM w' B (c + 1) (fun a b => if a = p ∧ b = q then some l else M a b) ∧ w.grownBy w' (some B) ∧ Ext w0 w' := by
  obtain ⟨n, D, hn, ho, h2⟩ := hL
  obtain ⟨w', hrun, h3, h4⟩ := ho.update law37 under40 (by unfold maxLen; omega) (key_kl p q) (pe_mk l)
  refine ⟨w', hrun, ⟨n + 1, _, by omega, h3, fun a b => ?_⟩, h4, Below.grown he h4 he.size (fun k hk => by injection hk with hk; omega)⟩
  by_cases hc : a = p ∧ b = q
  · obtain ⟨rfl, rfl⟩ := hc
    simp only []
    rw [if_pos (by simp), atKey_put_same ho.isMap (law37.key (key_kl a b)), has_put_same ho.isMap (law37.key (key_kl a b))]
    exact ⟨rfl, rfl⟩
  · have hne : kl a b ≠ kl p q := fun e => hc (kl_inj e)
    simp only []
    rw [if_neg hc, atKey_put_other hne, has_put_other hne]
    exact h2 a b

theorem wpList_putP {ops : Array Oper} {rest : List Oper} {o : Oper} {a : Act} {Q : Exit → Act → World → Prop} (hg : o.guard = none) (m x v : Operand) (hop : o.op = Op.mapUpdate 40 m x v ∨ o.op = Op.insert 40 m x v)
    (w0 w : World) (M : Mp) (B c : Nat) (hm : a.eval m = .map (some B)) (hL : PM w B c M) (hc : c < 1000) (p q : Bool) (hx : a.eval x = pv p q) (l : Nat × Nat) (hv : a.eval v = pth l)
    (he : Ext w0 w) (hB : w0.heap.size ≤ B)
    (hK : ∀ w', PM w' B (c + 1) (fun a b => if a = p ∧ b = q then some l else M a b) → w.grownBy w' (some B) → Ext w0 w' → wpList Tryd.prog ops Q rest (a.put o.dst undef) w') : wpList Tryd.prog ops Q (o :: rest) a w := by
  refine wpList_plain hg fun K' hK' => ?_
  obtain ⟨w', hrun, h3, h4, h5⟩ := hL.put hc p q l he hB
  unfold Oper.wp
  rcases hop with hop | hop <;>
  · simp [execOp, hop, hm, hx, hv, hrun, Result.andThen]
    exact hK' _ _ (hK w' h3 h4 h5)

theorem Row.grownBy {w w' : World} {B C : Nat} {t : TypeId} {l : List Value} (h : Row w C t l) (g : w.grownBy w' (some B)) (hne : C ≠ B) : Row w' C t l := by
  show w'.heap[C]? = _
  rw [g.block C h.lt (fun e => hne (by injection e))]
  exact h
theorem PM.grownBy {w w' : World} {B C c : Nat} {m : Mp} (h : PM w C c m) (g : w.grownBy w' (some B)) (hne : C ≠ B) : PM w' C c m := by
  obtain ⟨n, D, hn, ho, h2⟩ := h
  exact ⟨n, D, hn, ho.kept g (fun e => hne (by injection e)), h2⟩

end Go.Proofs.YtnkhlohoaoiefaaDoor
