/-
  Bits that a call is handed, whatever they are, lie in memory as lists of bits.
-/
import Derived.Test.YtjdipgkdaloclaaOpen
import Derived.Test.YtjdipgkdaloclaaLf
namespace Go.Proofs.Ytjdipgkdaloclaa
open Go.ChangeShapes Go.WideShapes Go.ChangeAt Go.RowKit Go.Deep

theorem cells4 : Try.prog.cellsOf 4 = 1 := by kernel_rfl

theorem open_bits {H : Type} {enc : TypeId × Value → H} {W : World} {base : Nat} {v : Value} {d : DataW H} {p : List MemPlace} (hok : Value.okWide Try.prog W .any base 30 v)
    (h : DataW.Trod enc Try.prog W 0 (fun _ => true) true 30 v d p) : ∃ x : Bd, v = x.v ∧ Bls W x := by
  obtain ⟨a0, len, cap, rfl⟩ := okWide_slice Try.underlying30 hok
  obtain ⟨fuel, hf⟩ := h
  rcases open_bools Try.underlying30 Try.underlying4 cells4 hf with ⟨hcs, hx⟩ | ⟨a, len', cap', B, hcs, _, hl, hm, hx, hcell⟩
  · simp [Value.cells] at hcs
    obtain ⟨rfl, rfl, rfl⟩ := hcs
    exact ⟨⟨none, 0, []⟩, rfl, by simp, by simp, by simp, 0, 0, by simp, by simp⟩
  · simp [Value.cells] at hcs
    obtain ⟨rfl, rfl, rfl⟩ := hcs
    refine ⟨⟨some a, cap, (List.range len).map B⟩, by simp [Bd.v], by simpa using hl, hm, by simp, a.block, a.off, ?_, ?_⟩
    · intro h0
      simp at h0
      exact congrArg some (addr_plain (hcell 0 (by omega)))
    · intro i hi
      simp at hi
      have h1 := cell_at (hcell 0 (by omega)) (hcell i (by omega))
      simpa [List.getD_eq_getElem?_getD, hi] using h1

end Go.Proofs.Ytjdipgkdaloclaa
