/-
  A code that a call is handed, whatever it is, lies in memory as words of bits.
-/
import Derived.Test.YtakggfogoobdnaaRows
import Derived.Test.YtakggfogoobdnaaCheck
import Derived.ProofKit
import Derived.OpenShut
import Derived.ShutString
import Derived.ChangeOld
import Derived.SizedLaws
import Derived.Deep.Grids
import Derived.Deep.Modes
import Derived.Deep.Frames
namespace Go.Proofs.Ytakggfogoobdnaa
open Go.ChangeShapes Go.WideShapes Go.ChangeAt Go.RowKit Go.Deep

theorem own : ownKnob Try.prog.godebug = none := by kernel_rfl
theorem laidOut : laidOutB Try.prog = true := by kernel_rfl
theorem cells44 : Try.prog.cellsOf 44 = 1 := by kernel_rfl
theorem cells4 : Try.prog.cellsOf 4 = 1 := by kernel_rfl
theorem cells3 : Try.prog.cellsOf 3 = 1 := by kernel_rfl

theorem addr_plain {w : World} {a : Addr} {v : Value} (h : w.cell? (a.add 0) = some v) : a = ⟨a.block, a.off, none⟩ := by
  have := World.cell?_spot h
  obtain ⟨b, o, s⟩ := a
  simp [Addr.add] at this
  simp [this]

theorem cell_at {w : World} {a : Addr} {i : Nat} {u v : Value} (h : w.cell? (a.add 0) = some u) (hi : w.cell? (a.add i) = some v) : w.cell? ⟨a.block, a.off + i, none⟩ = some v := by
  rw [addr_plain h, add_plain] at hi
  exact hi

theorem open_word {H : Type} {enc : TypeId × Value → H} {W : World} {base : Nat} {v : Value} {d : DataW H} {p : List MemPlace} (hok : Value.okWide Try.prog W .any base 44 v)
    (h : DataW.Trod enc Try.prog W 0 (fun _ => true) true 44 v d p) : ∃ x : Wd, v = x.v ∧ Bits W x := by
  obtain ⟨a0, len, cap, rfl⟩ := okWide_slice Try.underlying44 hok
  obtain ⟨fuel, hf⟩ := h
  rcases open_bools Try.underlying44 Try.underlying4 cells4 hf with ⟨hcs, hx⟩ | ⟨a, len', cap', B, hcs, _, hl, hm, hx, hcell⟩
  · simp [Value.cells] at hcs
    obtain ⟨rfl, rfl, rfl⟩ := hcs
    exact ⟨⟨none, 0, []⟩, rfl, by simp, by simp, by simp, 0, 0, by simp, by simp⟩
  · simp [Value.cells] at hcs
    obtain ⟨rfl, rfl, rfl⟩ := hcs
    refine ⟨⟨some a, cap, (List.range len).map B⟩, by simp [Wd.v], by simpa using hl, hm, by simp, a.block, a.off, ?_, ?_⟩
    · intro h0
      simp at h0
      exact congrArg some (addr_plain (hcell 0 (by omega)))
    · intro i hi
      simp at hi
      have h1 := cell_at (hcell 0 (by omega)) (hcell i (by omega))
      simpa [List.getD_eq_getElem?_getD, hi] using h1

theorem open_syms {H : Type} {enc : TypeId × Value → H} {W : World} {base : Nat} {v : Value} {d : DataW H} {p : List MemPlace} (hok : Value.okWide Try.prog W .any base 27 v)
    (h : DataW.Trod enc Try.prog W 0 (fun _ => true) true 27 v d p) : ∃ x : Nm, v = x.v ∧ Nums W x := by
  obtain ⟨a0, len, cap, rfl⟩ := okWide_slice Try.underlying27 hok
  obtain ⟨fuel, hf⟩ := h
  rcases open_ints Try.underlying27 Try.underlying3 cells3 hf with ⟨hcs, _⟩ | ⟨a, l, c, zs, hcs, _, hl, hm, hz, _, hcell, hwz⟩
  · simp [Value.cells] at hcs
    obtain ⟨rfl, rfl, rfl⟩ := hcs
    exact ⟨⟨none, 0, []⟩, rfl, by simp, by simp, by simp, 0, 0, by simp, by simp⟩
  · simp [Value.cells] at hcs
    obtain ⟨rfl, rfl, rfl⟩ := hcs
    have hzl : zs.length = cap := by simpa using hz
    refine ⟨⟨some a, cap, zs.take len⟩, by simp [Nm.v]; omega, by simp; omega, hm, by simp, a.block, a.off, ?_, ?_⟩
    · intro h0
      have h0' : 0 < len ∧ 0 < zs.length := by simp at h0; omega
      exact congrArg some (addr_plain (hcell 0 (by omega)))
    · intro i hi
      have hi' : i < len ∧ i < zs.length := by simp at hi; omega
      have h1 := cell_at (hcell 0 (by omega)) (hcell i (by omega))
      simpa [List.getD_eq_getElem?_getD, List.getElem?_take, hi'.1] using h1

theorem open_code {H : Type} {enc : TypeId × Value → H} {W : World} {base : Nat} {v : Value} {d : DataW H} {p : List MemPlace} (hok : Value.okWide Try.prog W .any base 34 v)
    (h : DataW.Trod enc Try.prog W 0 (fun _ => true) true 34 v d p) : ∃ (a : Option Addr) (c : Nat) (g : List Wd), v = .slice a g.length c ∧ Wds W a c g := by
  obtain ⟨a0, len, cap, rfl⟩ := okWide_slice Try.underlying34 hok
  obtain ⟨fuel, hf⟩ := h
  rcases open_bool_rows Try.underlying34 Try.underlying44 Try.underlying4 cells44 cells4 hf with ⟨hcs, hx⟩ | ⟨a, len', cap', A, L, C, B, hcs, _, hl, hm, hx, hrows⟩
  · simp [Value.cells] at hcs
    obtain ⟨rfl, rfl, rfl⟩ := hcs
    exact ⟨none, 0, [], rfl, by simp, by simp, by simp, 0, 0, by simp, by simp⟩
  · simp [Value.cells] at hcs
    obtain ⟨rfl, rfl, rfl⟩ := hcs
    refine ⟨some a, cap, (List.range len).map fun r => ⟨A r, C r, (List.range (L r)).map (B r)⟩, by simp, by simpa using hl, hm, ?_, a.block, a.off, ?_, ?_⟩
    · intro x hx
      obtain ⟨r, hr, rfl⟩ := List.mem_map.1 hx
      have hr' := List.mem_range.1 hr
      obtain ⟨h1, h2, h3, h4, h5⟩ := hrows r (by omega)
      refine ⟨by simpa using h2, h3, h4, ?_⟩
      cases hA : A r with
      | none =>
        have := h4 hA
        have hL : L r = 0 := by omega
        simp only [hL]
        exact ⟨0, 0, by simp, by simp⟩
      | some a' =>
        obtain ⟨_, hcell⟩ := h5 a' hA
        refine ⟨a'.block, a'.off, ?_, ?_⟩
        · intro h0
          simp at h0
          exact congrArg some (addr_plain (hcell 0 (by omega)))
        · intro i hi
          simp at hi
          have h1 := cell_at (hcell 0 (by omega)) (hcell i (by omega))
          simpa [List.getD_eq_getElem?_getD, hi] using h1
    · intro h0
      simp at h0
      exact congrArg some (addr_plain (hrows 0 (by omega)).1)
    · intro i hi
      simp at hi
      have h1 := cell_at (hrows 0 (by omega)).1 (hrows i (by omega)).1
      simpa [Wd.v] using h1

theorem open_code_sized {H : Type} {enc : TypeId × Value → H} {W : World} {base : Nat} {v : Value} {d : DataW H} {p : List MemPlace} (hok : Value.okWide Try.prog W .any base 34 v)
    (h : DataW.Trod enc Try.prog W 0 (fun _ => true) true 34 v d p) : ∃ (a : Option Addr) (c : Nat) (g : List Wd), v = .slice a g.length c ∧ Wds W a c g ∧ (g.length = 0 ∨ ∃ es sp, d = .slice es sp ∧ es.length = g.length) := by
  obtain ⟨a0, len, cap, rfl⟩ := okWide_slice Try.underlying34 hok
  obtain ⟨fuel, hf⟩ := h
  rcases open_bool_rows Try.underlying34 Try.underlying44 Try.underlying4 cells44 cells4 hf with ⟨hcs, hx⟩ | ⟨a, len', cap', A, L, C, B, hcs, _, hl, hm, hx, hrows⟩
  · simp [Value.cells] at hcs
    obtain ⟨rfl, rfl, rfl⟩ := hcs
    exact ⟨none, 0, [], rfl, ⟨by simp, by simp, by simp, 0, 0, by simp, by simp⟩, .inl rfl⟩
  · simp [Value.cells] at hcs
    obtain ⟨rfl, rfl, rfl⟩ := hcs
    refine ⟨some a, cap, (List.range len).map fun r => ⟨A r, C r, (List.range (L r)).map (B r)⟩, by simp, ⟨by simpa using hl, hm, ?_, a.block, a.off, ?_, ?_⟩, .inr ⟨_, _, congrArg Prod.fst hx, by simp⟩⟩
    · intro x hx
      obtain ⟨r, hr, rfl⟩ := List.mem_map.1 hx
      have hr' := List.mem_range.1 hr
      obtain ⟨h1, h2, h3, h4, h5⟩ := hrows r (by omega)
      refine ⟨by simpa using h2, h3, h4, ?_⟩
      cases hA : A r with
      | none =>
        have := h4 hA
        have hL : L r = 0 := by omega
        simp only [hL]
        exact ⟨0, 0, by simp, by simp⟩
      | some a' =>
        obtain ⟨_, hcell⟩ := h5 a' hA
        refine ⟨a'.block, a'.off, ?_, ?_⟩
        · intro h0
          simp at h0
          exact congrArg some (addr_plain (hcell 0 (by omega)))
        · intro i hi
          simp at hi
          have h1 := cell_at (hcell 0 (by omega)) (hcell i (by omega))
          simpa [List.getD_eq_getElem?_getD, hi] using h1
    · intro h0
      simp at h0
      exact congrArg some (addr_plain (hrows 0 (by omega)).1)
    · intro i hi
      simp at hi
      have h1 := cell_at (hrows 0 (by omega)).1 (hrows i (by omega)).1
      simpa [Wd.v] using h1

theorem bytes44 : Try.prog.bytesOf 44 = 24 := by kernel_rfl

end Go.Proofs.Ytakggfogoobdnaa
