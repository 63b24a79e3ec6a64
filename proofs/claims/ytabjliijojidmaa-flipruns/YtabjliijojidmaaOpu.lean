/-
  Lists of words that a call is handed, whatever they are, lie in memory one behind the other.
-/
import Derived.Test.YtabjliijojidmaaOpen
import Derived.Test.YtabjliijojidmaaOw
namespace Go.Proofs.Ytabjliijojidmaa
open Go.ChangeShapes Go.WideShapes Go.ChangeAt Go.RowKit Go.Deep

theorem cells23 : Try.prog.cellsOf 23 = 1 := by kernel_rfl

theorem u32_both : IntKind.u32.min = 0 ∧ IntKind.u32.max = 4294967295 := by decide

theorem u32_of {x : Int} (h : (Lit.int .u32 x).wf = true) : 0 ≤ x ∧ x < 4294967296 := by
  simp only [Lit.wf, u32_both, Bool.and_eq_true, decide_eq_true_eq] at h
  omega

theorem open_us {H : Type} {enc : TypeId × Value → H} {W : World} {base : Nat} {v : Value} {d : DataW H} {p : List MemPlace} (hok : Value.okWide Try.prog W .any base 22 v)
    (h : DataW.Trod enc Try.prog W 0 (fun _ => true) true 22 v d p) : ∃ x : Um, v = x.v ∧ Us W x ∧ ∀ y ∈ x.z, y < 4294967296 := by
  obtain ⟨a0, len, cap, rfl⟩ := okWide_slice Try.underlying22 hok
  obtain ⟨fuel, hf⟩ := h
  rcases open_ints Try.underlying22 Try.underlying23 cells23 hf with ⟨hcs, _⟩ | ⟨a, l, c, zs, hcs, _, hl, hm, hz, _, hcell, hwz⟩
  · simp [Value.cells] at hcs
    obtain ⟨rfl, rfl, rfl⟩ := hcs
    exact ⟨⟨none, 0, []⟩, rfl, ⟨by simp, by simp, by simp, 0, 0, by simp, by simp⟩, by simp⟩
  · simp [Value.cells] at hcs
    obtain ⟨rfl, rfl, rfl⟩ := hcs
    have hzl : zs.length = cap := by simpa using hz
    have W0 : ∀ z ∈ zs, 0 ≤ z ∧ z < 4294967296 := fun z hz => u32_of (hwz z hz)
    refine ⟨⟨some a, cap, (zs.take len).map Int.toNat⟩, by simp [Um.v]; omega, ⟨by simp; omega, hm, by simp, a.block, a.off, ?_, ?_⟩, ?_⟩
    · intro h0
      have h0' : 0 < len ∧ 0 < zs.length := by simp at h0; omega
      exact congrArg some (addr_plain (hcell 0 (by omega)))
    · intro i hi
      have hi' : i < len ∧ i < zs.length := by simp at hi; omega
      have h1 := cell_at (hcell 0 (by omega)) (hcell i (by omega))
      rw [h1]
      have := W0 zs[i] (List.getElem_mem hi'.2)
      simp [List.getD_eq_getElem?_getD, hi'.1, hi'.2]
      omega
    · intro y hy
      simp only [List.mem_map] at hy
      obtain ⟨z, hz, rfl⟩ := hy
      have := W0 z (List.mem_of_mem_take hz)
      omega

end Go.Proofs.Ytabjliijojidmaa
