/-
  Lists of bytes that a call is handed, whatever they are, lie in memory one behind the other.
-/
import Derived.Test.YtakojkekelhobaaOpen
import Derived.Test.YtakojkekelhobaaRw
namespace Go.Proofs.Ytakojkekelhobaa
open Go.ChangeShapes Go.WideShapes Go.ChangeAt Go.RowKit Go.Deep

theorem cells5 : Try.prog.cellsOf 5 = 1 := by kernel_rfl

theorem u8_of {x : Int} (h : (Lit.int .u8 x).wf = true) : 0 ≤ x ∧ x < 256 := by
  have b : IntKind.u8.min = 0 ∧ IntKind.u8.max = 255 := by decide
  simp only [Lit.wf, b, Bool.and_eq_true, decide_eq_true_eq] at h
  omega

/-- Bytes one behind the other in memory. -/
structure Ym where
  a : Option Addr
  c : Nat
  z : List Nat

abbrev Ym.v (x : Ym) : Value := .slice x.a x.z.length x.c

def Ys (w : World) (x : Ym) : Prop :=
  x.z.length ≤ x.c ∧ x.c ≤ maxLen ∧ (x.a = none → x.c = 0) ∧
    ∃ b o, (0 < x.z.length → x.a = some ⟨b, o, none⟩) ∧ ∀ i, i < x.z.length → w.cell? ⟨b, o + i, none⟩ = some (.int .u8 (x.z.getD i 0 : Nat))

theorem Ys.ext {w w' : World} {x : Ym} (h : Ys w x) (e : Ext w w') : Ys w' x := by
  obtain ⟨h1, h2, h0, b, o, h3, h4⟩ := h
  exact ⟨h1, h2, h0, b, o, h3, fun i hi => e.cell (h4 i hi)⟩

theorem open_ys {H : Type} {enc : TypeId × Value → H} {W : World} {base : Nat} {v : Value} {d : DataW H} {p : List MemPlace} (hok : Value.okWide Try.prog W .any base 38 v)
    (h : DataW.Trod enc Try.prog W 0 (fun _ => true) true 38 v d p) : ∃ x : Ym, v = x.v ∧ Ys W x ∧ ∀ i, i < x.z.length → x.z.getD i 0 < 256 := by
  obtain ⟨a0, len, cap, rfl⟩ := okWide_slice Try.underlying38 hok
  obtain ⟨fuel, hf⟩ := h
  rcases open_ints Try.underlying38 Try.underlying5 cells5 hf with ⟨hcs, _⟩ | ⟨a, l, c, zs, hcs, _, hl, hm, hz, _, hcell, hwz⟩
  · simp [Value.cells] at hcs
    obtain ⟨rfl, rfl, rfl⟩ := hcs
    exact ⟨⟨none, 0, []⟩, rfl, ⟨by simp, by simp, by simp, 0, 0, by simp, by simp⟩, by simp⟩
  · simp [Value.cells] at hcs
    obtain ⟨rfl, rfl, rfl⟩ := hcs
    have hzl : zs.length = cap := by simpa using hz
    have W0 : ∀ z ∈ zs, 0 ≤ z ∧ z < 256 := fun z hz => u8_of (hwz z hz)
    refine ⟨⟨some a, cap, (zs.take len).map Int.toNat⟩, by simp [Ym.v]; omega, ⟨by simp; omega, hm, by simp, a.block, a.off, ?_, ?_⟩, ?_⟩
    · intro h0
      have h0' : 0 < len ∧ 0 < zs.length := by simp at h0; omega
      exact congrArg some (addr_plain (hcell 0 (by omega)))
    · intro i hi
      have hi' : i < len ∧ i < zs.length := by simp at hi; omega
      have h1 := cell_at (hcell 0 (by omega)) (hcell i (by omega))
      rw [h1]
      have := W0 zs[i] (List.getElem_mem hi'.2)
      simp [List.getD_eq_getElem?_getD, hi'.1, hi'.2]
      omega
    · intro i hi
      have hi' : i < len ∧ i < zs.length := by simp at hi; omega
      have := W0 zs[i] (List.getElem_mem hi'.2)
      simp [List.getD_eq_getElem?_getD, hi'.1, hi'.2]
      omega

end Go.Proofs.Ytakojkekelhobaa
