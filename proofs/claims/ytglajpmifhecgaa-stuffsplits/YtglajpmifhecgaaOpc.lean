/-
  A code that a call is handed, whatever it is, lies in memory as words of bits.
-/
import Derived.Test.YtglajpmifhecgaaRows
import Derived.Test.YtglajpmifhecgaaOpen
import Derived.ProofKit
import Derived.OpenShut
import Derived.ShutString
import Derived.ChangeOld
import Derived.SizedLaws
import Derived.Deep.Grids
import Derived.Deep.Modes
import Derived.Deep.Frames
namespace Go.Proofs.Ytglajpmifhecgaa
open Go.ChangeShapes Go.WideShapes Go.ChangeAt Go.RowKit Go.Deep

theorem open_code {H : Type} {enc : TypeId × Value → H} {W : World} {base : Nat} {v : Value} {d : DataW H} {p : List MemPlace} (hok : Value.okWide Try.prog W .any base 31 v)
    (h : DataW.Trod enc Try.prog W 0 (fun _ => true) true 31 v d p) : ∃ (a : Option Addr) (c : Nat) (g : List Wd), v = .slice a g.length c ∧ Wds W a c g := by
  obtain ⟨a0, len, cap, rfl⟩ := okWide_slice Try.underlying31 hok
  obtain ⟨fuel, hf⟩ := h
  rcases open_bool_rows Try.underlying31 Try.underlying22 Try.underlying4 cells22 cells4 hf with ⟨hcs, hx⟩ | ⟨a, len', cap', A, L, C, B, hcs, _, hl, hm, hx, hrows⟩
  · simp [Value.cells] at hcs
    obtain ⟨rfl, rfl, rfl⟩ := hcs
    exact ⟨none, 0, [], rfl, by simp, by simp, by simp, 0, 0, by simp, by simp⟩
  · simp [Value.cells] at hcs
    obtain ⟨rfl, rfl, rfl⟩ := hcs
    refine ⟨some a, cap, (List.range len).map fun r => ⟨A r, C r, (List.range (L r)).map (B r)⟩, by simp, by simpa using hl, hm, ?_, a.block, a.off, ?_, ?_⟩
    · intro x hx
      obtain ⟨r, hr, rfl⟩ := List.mem_map.1 hx
      have hr' := List.mem_range.1 hr
      obtain ⟨h1, h2, h3, h4, h5⟩ := hrows r (by omega)
      refine ⟨by simpa using h2, h3, h4, ?_⟩
      cases hA : A r with
      | none =>
        have := h4 hA
        have hL : L r = 0 := by omega
        simp only [hL]
        exact ⟨0, 0, by simp, by simp⟩
      | some a' =>
        obtain ⟨_, hcell⟩ := h5 a' hA
        refine ⟨a'.block, a'.off, ?_, ?_⟩
        · intro h0
          simp at h0
          exact congrArg some (addr_plain (hcell 0 (by omega)))
        · intro i hi
          simp at hi
          have h1 := cell_at (hcell 0 (by omega)) (hcell i (by omega))
          simpa [List.getD_eq_getElem?_getD, hi] using h1
    · intro h0
      simp at h0
      exact congrArg some (addr_plain (hrows 0 (by omega)).1)
    · intro i hi
      simp at hi
      have h1 := cell_at (hrows 0 (by omega)).1 (hrows i (by omega)).1
      simpa [Wd.v] using h1

end Go.Proofs.Ytglajpmifhecgaa
