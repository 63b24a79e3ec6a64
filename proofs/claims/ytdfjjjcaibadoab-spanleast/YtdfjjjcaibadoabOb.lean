/-
  Bits that a call is handed, whatever they are, lie in memory one behind the other.
-/
import Derived.Test.YtdfjjjcaibadoabOpen
namespace Go.Proofs.Ytdfjjjcaibadoab
open Go.ChangeShapes Go.WideShapes Go.ChangeAt Go.RowKit Go.Deep

/-- Bits one behind the other in memory. -/
structure Bm where
  a : Option Addr
  c : Nat
  l : List Bool

abbrev Bm.v (x : Bm) : Value := .slice x.a x.l.length x.c

def Bs (w : World) (x : Bm) : Prop :=
  x.l.length ≤ x.c ∧ x.c ≤ maxLen ∧ (x.a = none → x.c = 0) ∧
    ∃ b o, (0 < x.l.length → x.a = some ⟨b, o, none⟩) ∧ ∀ i, i < x.l.length → w.cell? ⟨b, o + i, none⟩ = some (.bool (x.l.getD i false))

theorem Bs.ext {w w' : World} {x : Bm} (h : Bs w x) (e : Ext w w') : Bs w' x := by
  obtain ⟨h1, h2, h0, b, o, h3, h4⟩ := h
  exact ⟨h1, h2, h0, b, o, h3, fun i hi => e.cell (h4 i hi)⟩

theorem cells4 : Try.prog.cellsOf 4 = 1 := by kernel_rfl

theorem open_bits {H : Type} {enc : TypeId × Value → H} {W : World} {base : Nat} {v : Value} {d : DataW H} {p : List MemPlace} (hok : Value.okWide Try.prog W .any base 33 v)
    (h : DataW.Trod enc Try.prog W 0 (fun _ => true) true 33 v d p) : ∃ x : Bm, v = x.v ∧ Bs W x := by
  obtain ⟨a0, len, cap, rfl⟩ := okWide_slice Try.underlying33 hok
  obtain ⟨fuel, hf⟩ := h
  rcases open_bools Try.underlying33 Try.underlying4 cells4 hf with ⟨hcs, hx⟩ | ⟨a, len', cap', B, hcs, _, hl, hm, hx, hcell⟩
  · simp [Value.cells] at hcs
    obtain ⟨rfl, rfl, rfl⟩ := hcs
    exact ⟨⟨none, 0, []⟩, rfl, by simp, by simp, by simp, 0, 0, by simp, by simp⟩
  · simp [Value.cells] at hcs
    obtain ⟨rfl, rfl, rfl⟩ := hcs
    refine ⟨⟨some a, cap, (List.range len).map B⟩, by simp [Bm.v], by simpa using hl, hm, by simp, a.block, a.off, ?_, ?_⟩
    · intro h0
      simp at h0
      exact congrArg some (addr_plain (hcell 0 (by omega)))
    · intro i hi
      simp at hi
      have h1 := cell_at (hcell 0 (by omega)) (hcell i (by omega))
      simpa [List.getD_eq_getElem?_getD, hi] using h1

end Go.Proofs.Ytdfjjjcaibadoab
