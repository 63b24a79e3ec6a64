/-
  Functions that write one block alone: all the others are as they were.
-/
import Derived.Test.YtdfjjjcaibadoabDoorOwn
namespace Go.Proofs.YtdfjjjcaibadoabDoor
open Go.RowKit

/-- All but one block is as it was. -/
structure KB (B : Nat) (w w' : World) : Prop where
  os : w'.os = w.os
  tape : w'.tape = w.tape
  output : w'.output = w.output
  size : w.heap.size ≤ w'.heap.size
  block : ∀ k, k < w.heap.size → k ≠ B → w'.heap[k]? = w.heap[k]?

theorem KB.refl (B : Nat) (w : World) : KB B w w := ⟨rfl, rfl, rfl, Nat.le_refl _, fun _ _ _ => rfl⟩
theorem KB.trans {B : Nat} {a b c : World} (h : KB B a b) (k : KB B b c) : KB B a c :=
  ⟨k.os.trans h.os, k.tape.trans h.tape, k.output.trans h.output, Nat.le_trans h.size k.size, fun i hi hne => (k.block i (Nat.lt_of_lt_of_le hi h.size) hne).trans (h.block i hi hne)⟩
theorem KB.of_ext {B : Nat} {w w' : World} (h : Ext w w') : KB B w w' := ⟨h.os, h.tape, h.output, h.size, fun k hk _ => h.block k hk⟩
theorem KB.setCell {B : Nat} {w w' : World} (h : KB B w w') {i : Nat} (u : Value) : KB B w (w'.setCell ⟨B, i, none⟩ u) := by
  have e : Below 0 w' (w'.setCell ⟨B, i, none⟩ u) := Below.setCell (Below.refl 0 w') (Nat.zero_le _) u
  exact ⟨e.os.trans h.os, e.tape.trans h.tape, e.output.trans h.output, by rw [World.size_setCell]; exact h.size, fun k hk hne => by
    rw [Below.heap_setCell _ _ _ _ hne]
    exact h.block k hk hne⟩
theorem KB.ext {B : Nat} {w0 w w' : World} (h : KB B w w') (e : Ext w0 w) (hB : w0.heap.size ≤ B) : Ext w0 w' :=
  ⟨h.os.trans e.os, h.tape.trans e.tape, h.output.trans e.output, Nat.le_trans e.size h.size, fun k hk => (h.block k (Nat.lt_of_lt_of_le hk e.size) (by omega)).trans (e.block k hk)⟩
theorem Row.kb {B : Nat} {w w' : World} {C : Nat} {t : TypeId} {l : List Value} (h : Row w C t l) (e : KB B w w') (hne : C ≠ B) : Row w' C t l := by
  show w'.heap[C]? = _
  rw [e.block C h.lt hne]
  exact h

theorem setRow_kb (w : World) (g : Nat) (cs : Array Value) : KB g w (w.setRow g cs) :=
  ⟨rfl, rfl, rfl, by simp, fun k _ hne => setRow_other w g k cs hne⟩

end Go.Proofs.YtdfjjjcaibadoabDoor
