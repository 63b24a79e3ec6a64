/-
  Bytes and numbers that a call is handed, whatever they are, lie in memory as words of bytes and lists of numbers.
-/
import Derived.Test.YtjdipgkdaloclaaDoorRows
import Derived.Test.YtjdipgkdaloclaaDoorOwn
import Derived.ProofKit
import Derived.OpenShut
import Derived.ShutString
import Derived.ChangeOld
import Derived.SizedLaws
import Derived.Deep.Grids
import Derived.Deep.Modes
import Derived.Deep.Frames
import Derived.Deep.CondSized
namespace Go.Proofs.YtjdipgkdaloclaaDoor
open Go.ChangeShapes Go.WideShapes Go.ChangeAt Go.RowKit Go.Deep

theorem cells3 : Tryd.prog.cellsOf 3 = 1 := by kernel_rfl
theorem cells5 : Tryd.prog.cellsOf 5 = 1 := by kernel_rfl

/-- Bytes. -/
def Byt (l : List Int) : Prop := ∀ b ∈ l, (Lit.int .u8 b).wf = true

theorem laidOut : laidOutB Tryd.prog = true := by kernel_rfl

theorem own : ownKnob Tryd.prog.godebug = none := by kernel_rfl

theorem addr_plain {w : World} {a : Addr} {v : Value} (h : w.cell? (a.add 0) = some v) : a = ⟨a.block, a.off, none⟩ := by
  have := World.cell?_spot h
  obtain ⟨b, o, s⟩ := a
  simp [Addr.add] at this
  simp [this]

theorem cell_at {w : World} {a : Addr} {i : Nat} {u v : Value} (h : w.cell? (a.add 0) = some u) (hi : w.cell? (a.add i) = some v) : w.cell? ⟨a.block, a.off + i, none⟩ = some v := by
  rw [addr_plain h, add_plain] at hi
  exact hi

theorem open_syms {H : Type} {enc : TypeId × Value → H} {W : World} {base : Nat} {v : Value} {d : DataW H} {p : List MemPlace} (hok : Value.okWide Tryd.prog W .any base 22 v)
    (h : DataW.Trod enc Tryd.prog W 0 (fun _ => true) true 22 v d p) : ∃ x : Nm, v = x.v ∧ Nums W x := by
  obtain ⟨a0, len, cap, rfl⟩ := okWide_slice Tryd.underlying22 hok
  obtain ⟨fuel, hf⟩ := h
  rcases open_ints Tryd.underlying22 Tryd.underlying3 cells3 hf with ⟨hcs, _⟩ | ⟨a, l, c, zs, hcs, _, hl, hm, hz, _, hcell, hwz⟩
  · simp [Value.cells] at hcs
    obtain ⟨rfl, rfl, rfl⟩ := hcs
    exact ⟨⟨none, 0, []⟩, rfl, by simp, by simp, by simp, 0, 0, by simp, by simp⟩
  · simp [Value.cells] at hcs
    obtain ⟨rfl, rfl, rfl⟩ := hcs
    have hzl : zs.length = cap := by simpa using hz
    refine ⟨⟨some a, cap, zs.take len⟩, by simp [Nm.v]; omega, by simp; omega, hm, by simp, a.block, a.off, ?_, ?_⟩
    · intro h0
      have h0' : 0 < len ∧ 0 < zs.length := by simp at h0; omega
      exact congrArg some (addr_plain (hcell 0 (by omega)))
    · intro i hi
      have hi' : i < len ∧ i < zs.length := by simp at hi; omega
      have h1 := cell_at (hcell 0 (by omega)) (hcell i (by omega))
      simpa [List.getD_eq_getElem?_getD, List.getElem?_take, hi'.1] using h1

theorem bytes5 : Tryd.prog.bytesOf 5 = 1 := by kernel_rfl

theorem open_syms_sized {H : Type} {enc : TypeId × Value → H} {W : World} {base : Nat} {v : Value} {d : DataW H} {p : List MemPlace} (hok : Value.okWide Tryd.prog W .any base 22 v)
    (h : DataW.Trod enc Tryd.prog W 0 (fun _ => true) true 22 v d p) : ∃ x : Nm, v = x.v ∧ Nums W x ∧ (x.z.length = 0 ∨ ∃ es sp, d = .slice es sp ∧ es.length = x.z.length) := by
  obtain ⟨a0, len, cap, rfl⟩ := okWide_slice Tryd.underlying22 hok
  obtain ⟨fuel, hf⟩ := h
  rcases open_ints Tryd.underlying22 Tryd.underlying3 cells3 hf with ⟨hcs, _⟩ | ⟨a, l, c, zs, hcs, _, hl, hm, hz, hx, hcell, hwz⟩
  · simp [Value.cells] at hcs
    obtain ⟨rfl, rfl, rfl⟩ := hcs
    exact ⟨⟨none, 0, []⟩, rfl, ⟨by simp, by simp, by simp, 0, 0, by simp, by simp⟩, .inl rfl⟩
  · simp [Value.cells] at hcs
    obtain ⟨rfl, rfl, rfl⟩ := hcs
    have hzl : zs.length = cap := by simpa using hz
    refine ⟨⟨some a, cap, zs.take len⟩, by simp [Nm.v]; omega, ⟨by simp; omega, hm, by simp, a.block, a.off, ?_, ?_⟩, .inr ⟨_, _, congrArg Prod.fst hx, by simp [lits]⟩⟩
    · intro h0
      have h0' : 0 < len ∧ 0 < zs.length := by simp at h0; omega
      exact congrArg some (addr_plain (hcell 0 (by omega)))
    · intro i hi
      have hi' : i < len ∧ i < zs.length := by simp at hi; omega
      have h1 := cell_at (hcell 0 (by omega)) (hcell i (by omega))
      simpa [List.getD_eq_getElem?_getD, List.getElem?_take, hi'.1] using h1

theorem bytes3 : Tryd.prog.bytesOf 3 = 8 := by kernel_rfl

end Go.Proofs.YtjdipgkdaloclaaDoor
