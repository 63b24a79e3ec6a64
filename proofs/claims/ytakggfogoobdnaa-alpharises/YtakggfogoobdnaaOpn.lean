/-
  Arguments opened: lists of weights.
-/
import Derived.Test.YtakggfogoobdnaaOpen
namespace Go.Proofs.Ytakggfogoobdnaa
open Go.ChangeShapes Go.WideShapes Go.ChangeAt Go.RowKit Go.Deep

theorem cells2 : Try.prog.cellsOf 2 = 1 := by kernel_rfl

theorem open_wts {H : Type} {enc : TypeId × Value → H} {W : World} {base : Nat} {v : Value} {d : DataW H} {p : List MemPlace} (hok : Value.okWide Try.prog W .any base 22 v)
    (h : DataW.Trod enc Try.prog W 0 (fun _ => true) true 22 v d p) : ∃ x : Nm, v = x.v ∧ Nums W x := by
  obtain ⟨a0, len, cap, rfl⟩ := okWide_slice Try.underlying22 hok
  obtain ⟨fuel, hf⟩ := h
  rcases open_ints Try.underlying22 Try.underlying2 cells2 hf with ⟨hcs, _⟩ | ⟨a, l, c, zs, hcs, _, hl, hm, hz, _, hcell, hwz⟩
  · simp [Value.cells] at hcs
    obtain ⟨rfl, rfl, rfl⟩ := hcs
    exact ⟨⟨none, 0, []⟩, rfl, by simp, by simp, by simp, 0, 0, by simp, by simp⟩
  · simp [Value.cells] at hcs
    obtain ⟨rfl, rfl, rfl⟩ := hcs
    have hzl : zs.length = cap := by simpa using hz
    refine ⟨⟨some a, cap, zs.take len⟩, by simp [Nm.v]; omega, by simp; omega, hm, by simp, a.block, a.off, ?_, ?_⟩
    · intro h0
      have h0' : 0 < len ∧ 0 < zs.length := by simp at h0; omega
      exact congrArg some (addr_plain (hcell 0 (by omega)))
    · intro i hi
      have hi' : i < len ∧ i < zs.length := by simp at hi; omega
      have h1 := cell_at (hcell 0 (by omega)) (hcell i (by omega))
      simpa [List.getD_eq_getElem?_getD, List.getElem?_take, hi'.1] using h1

end Go.Proofs.Ytakggfogoobdnaa
