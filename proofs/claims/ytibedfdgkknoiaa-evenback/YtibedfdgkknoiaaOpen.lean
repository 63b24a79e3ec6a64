/-
  A code that a call is handed, whatever it is, lies in memory as words of bits.
-/
import Derived.Test.YtibedfdgkknoiaaRows
import Derived.Test.YtibedfdgkknoiaaEq
import Derived.ProofKit
import Derived.OpenShut
import Derived.ShutString
import Derived.ChangeOld
import Derived.SizedLaws
import Derived.Deep.Grids
import Derived.Deep.Modes
import Derived.Deep.Frames
import Derived.Deep.CondSized
namespace Go.Proofs.Ytibedfdgkknoiaa
open Go.ChangeShapes Go.WideShapes Go.ChangeAt Go.RowKit Go.Deep

theorem own : ownKnob Try.prog.godebug = none := by kernel_rfl
theorem laidOut : laidOutB Try.prog = true := by kernel_rfl
theorem cells22 : Try.prog.cellsOf 22 = 1 := by kernel_rfl
theorem cells4 : Try.prog.cellsOf 4 = 1 := by kernel_rfl
theorem cells3 : Try.prog.cellsOf 3 = 1 := by kernel_rfl

theorem addr_plain {w : World} {a : Addr} {v : Value} (h : w.cell? (a.add 0) = some v) : a = ⟨a.block, a.off, none⟩ := by
  have := World.cell?_spot h
  obtain ⟨b, o, s⟩ := a
  simp [Addr.add] at this
  simp [this]

theorem cell_at {w : World} {a : Addr} {i : Nat} {u v : Value} (h : w.cell? (a.add 0) = some u) (hi : w.cell? (a.add i) = some v) : w.cell? ⟨a.block, a.off + i, none⟩ = some v := by
  rw [addr_plain h, add_plain] at hi
  exact hi

theorem open_word {H : Type} {enc : TypeId × Value → H} {W : World} {base : Nat} {v : Value} {d : DataW H} {p : List MemPlace} (hok : Value.okWide Try.prog W .any base 22 v)
    (h : DataW.Trod enc Try.prog W 0 (fun _ => true) true 22 v d p) : ∃ x : Wd, v = x.v ∧ Bits W x := by
  obtain ⟨a0, len, cap, rfl⟩ := okWide_slice Try.underlying22 hok
  obtain ⟨fuel, hf⟩ := h
  rcases open_bools Try.underlying22 Try.underlying4 cells4 hf with ⟨hcs, hx⟩ | ⟨a, len', cap', B, hcs, _, hl, hm, hx, hcell⟩
  · simp [Value.cells] at hcs
    obtain ⟨rfl, rfl, rfl⟩ := hcs
    exact ⟨⟨none, 0, []⟩, rfl, by simp, by simp, by simp, 0, 0, by simp, by simp⟩
  · simp [Value.cells] at hcs
    obtain ⟨rfl, rfl, rfl⟩ := hcs
    refine ⟨⟨some a, cap, (List.range len).map B⟩, by simp [Wd.v], by simpa using hl, hm, by simp, a.block, a.off, ?_, ?_⟩
    · intro h0
      simp at h0
      exact congrArg some (addr_plain (hcell 0 (by omega)))
    · intro i hi
      simp at hi
      have h1 := cell_at (hcell 0 (by omega)) (hcell i (by omega))
      simpa [List.getD_eq_getElem?_getD, hi] using h1

theorem open_word_sized {H : Type} {enc : TypeId × Value → H} {W : World} {base : Nat} {v : Value} {d : DataW H} {p : List MemPlace} (hok : Value.okWide Try.prog W .any base 22 v)
    (h : DataW.Trod enc Try.prog W 0 (fun _ => true) true 22 v d p) : ∃ x : Wd, v = x.v ∧ Bits W x ∧ (x.l.length = 0 ∨ ∃ es sp, d = .slice es sp ∧ es.length = x.l.length) := by
  obtain ⟨a0, len, cap, rfl⟩ := okWide_slice Try.underlying22 hok
  obtain ⟨fuel, hf⟩ := h
  rcases open_bools Try.underlying22 Try.underlying4 cells4 hf with ⟨hcs, hx⟩ | ⟨a, len', cap', B, hcs, _, hl, hm, hx, hcell⟩
  · simp [Value.cells] at hcs
    obtain ⟨rfl, rfl, rfl⟩ := hcs
    exact ⟨⟨none, 0, []⟩, rfl, ⟨by simp, by simp, by simp, 0, 0, by simp, by simp⟩, .inl rfl⟩
  · simp [Value.cells] at hcs
    obtain ⟨rfl, rfl, rfl⟩ := hcs
    refine ⟨⟨some a, cap, (List.range len).map B⟩, by simp [Wd.v], ⟨by simpa using hl, hm, by simp, a.block, a.off, ?_, ?_⟩, .inr ⟨_, _, congrArg Prod.fst hx, by simp⟩⟩
    · intro h0
      simp at h0
      exact congrArg some (addr_plain (hcell 0 (by omega)))
    · intro i hi
      simp at hi
      have h1 := cell_at (hcell 0 (by omega)) (hcell i (by omega))
      simpa [List.getD_eq_getElem?_getD, hi] using h1

theorem bytes4 : Try.prog.bytesOf 4 = 1 := by kernel_rfl

end Go.Proofs.Ytibedfdgkknoiaa
