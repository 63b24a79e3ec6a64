/-
  A tree stored: two cells.
-/
import Derived.Test.YtakggfogoobdnaaMix
namespace Go.Proofs.Ytakggfogoobdnaa
open Go.RowKit

set_option maxHeartbeats 1000000 in
theorem store46 (ρ : Operand → Value) (o : Oper) (p v : Operand) (ho : o.op = .store 66 p v) (W : World) (B k : Nat) (hp : ρ p = .pointer (some ⟨B, k, none⟩)) (x : Int) (a : Option Addr) (n c : Nat) (hv : ρ v = .agg #[.int .i64 x, .slice a n c])
    (u0 u1 : Value) (k1 : W.cell? ⟨B, k, none⟩ = some u0) (k2 : W.cell? ⟨B, k + 1, none⟩ = some u1) (k3 : ∀ i, W.frozen? ⟨B, i, none⟩ = false) :
    (execOp ρ o).run Try.prog W = .ok .skip ((W.setCell ⟨B, k, none⟩ (.int .i64 x)).setCell ⟨B, k + 1, none⟩ (.slice a n c)) := by
  unfold execOp
  simp only [ho]
  go_simp

theorem exec_append {P : Program} (ρ : Operand → Value) (o : Oper) (s x : Operand) (t : TypeId) (ho : o.op = .call { callee := .builtin .append, args := #[s, x], argTypes := #[t, t] }) (v sv v' : Value) (W W' : World) (hs : ρ s = v) (hx : ρ x = sv)
    (hr : (Builtin.append_ #[t, t] o.type #[v, sv]).run P W = .ok v' W') : (execOp ρ o).run P W = .ok (.value v') W' := by
  unfold execOp
  simp only [ho, resolve, invoke, builtin, Sem.run_bind, Sem.run_pure, Result.andThen_ok, List.map_toArray, List.map_cons, List.map_nil, hs, hx, hr]

/-- The worlds in which one block alone may have turned. -/
theorem kb_fam (B : Nat) (w : World) : ∃ (ι : Type) (_ : Nonempty ι) (g : ι → World), (∀ i, KB B w (g i)) ∧ ∀ W, KB B w W → ∃ i, W = g i :=
  ⟨{W // KB B w W}, ⟨⟨w, KB.refl B w⟩⟩, Subtype.val, fun i => i.2, fun W h => ⟨⟨W, h⟩, rfl⟩⟩

end Go.Proofs.Ytakggfogoobdnaa
