/-
  Bytes and phrases that a call is handed, whatever they are, lie in memory as words of bytes and lists of phrases.
-/
import Derived.Test.YtjgheojfdkfmkaaRows
import Derived.Test.YtjgheojfdkfmkaaPrs
import Derived.ProofKit
import Derived.OpenShut
import Derived.ShutString
import Derived.ChangeOld
import Derived.SizedLaws
import Derived.Deep.Grids
import Derived.Deep.Modes
import Derived.Deep.Frames
import Derived.Deep.CondSized
import Derived.Deep.SlicePairs
namespace Go.Proofs.Ytjgheojfdkfmkaa
open Go.ChangeShapes Go.WideShapes Go.ChangeAt Go.RowKit Go.Deep

theorem own : ownKnob Try.prog.godebug = none := by kernel_rfl

theorem addr_plain {w : World} {a : Addr} {v : Value} (h : w.cell? (a.add 0) = some v) : a = ⟨a.block, a.off, none⟩ := by
  have := World.cell?_spot h
  obtain ⟨b, o, s⟩ := a
  simp [Addr.add] at this
  simp [this]

theorem cell_at {w : World} {a : Addr} {i : Nat} {u v : Value} (h : w.cell? (a.add 0) = some u) (hi : w.cell? (a.add i) = some v) : w.cell? ⟨a.block, a.off + i, none⟩ = some v := by
  rw [addr_plain h, add_plain] at hi
  exact hi

theorem open_word {H : Type} {enc : TypeId × Value → H} {W : World} {base : Nat} {v : Value} {d : DataW H} {p : List MemPlace} (hok : Value.okWide Try.prog W .any base 22 v)
    (h : DataW.Trod enc Try.prog W 0 (fun _ => true) true 22 v d p) : ∃ x : Wd, v = x.v ∧ Bits W x ∧ Byt x.l ∧ (x.l.length = 0 ∨ ∃ es sp, d = .slice es sp ∧ es.length = x.l.length) := by
  obtain ⟨a0, len, cap, rfl⟩ := okWide_slice Try.underlying22 hok
  obtain ⟨fuel, hf⟩ := h
  rcases open_ints Try.underlying22 Try.underlying5 cells5 hf with ⟨hcs, hx⟩ | ⟨a, len', cap', zs, hcs, _, hl, hm, hlen, hx, hcell, hwf⟩
  · simp [Value.cells] at hcs
    obtain ⟨rfl, rfl, rfl⟩ := hcs
    exact ⟨⟨none, 0, []⟩, rfl, ⟨by simp, by simp, by simp, 0, 0, by simp, by simp⟩, (fun b hb => by cases hb), .inl rfl⟩
  · simp [Value.cells] at hcs
    obtain ⟨rfl, rfl, rfl⟩ := hcs
    simp only [if_true] at hlen
    have htl : (zs.take len).length = len := by rw [List.length_take]; omega
    refine ⟨⟨some a, cap, zs.take len⟩, by simp only [Wd.v]; rw [htl], ⟨by simp only; omega, hm, by simp, a.block, a.off, ?_, ?_⟩, fun b hb => hwf b (List.mem_of_mem_take hb), .inr ⟨_, _, congrArg Prod.fst hx, ?_⟩⟩
    · intro h0
      simp only at h0
      exact congrArg some (addr_plain (hcell 0 (by omega)))
    · intro i hi
      simp only at hi
      have h1 := cell_at (hcell 0 (by omega)) (hcell i (by omega))
      rw [h1]
      have : i < len := by omega
      simp [List.getD_eq_getElem?_getD, this]
    · simp only [lits, List.length_map]

def numOfV : Value → Int
  | .int _ n => n
  | _ => 0

theorem open_phs {H : Type} {enc : TypeId × Value → H} {W : World} {base : Nat} {v : Value} {d : DataW H} {p : List MemPlace} (hok : Value.okWide Try.prog W .any base 23 v)
    (h : DataW.Trod enc Try.prog W 0 (fun _ => true) true 23 v d p) : ∃ x : Pm, v = x.v ∧ Phs W x := by
  obtain ⟨a0, len, cap, rfl⟩ := okWide_slice Try.underlying23 hok
  obtain ⟨fuel, hf⟩ := h
  rcases open_slice_pairs Try.underlying23 Try.underlying35 cells35 rfl rfl cells3 cells5 hf with ⟨hcs, hx⟩ | ⟨a, len', cap', m, n, V0, V1, D0, D1, P0, P1, hcs, _, hl, hm, hmm, hx, hcell⟩
  · simp [Value.cells] at hcs
    obtain ⟨rfl, rfl, rfl⟩ := hcs
    exact ⟨⟨none, 0, []⟩, rfl, ⟨by simp, by simp, by simp, 0, 0, by simp, by simp⟩⟩
  · simp [Value.cells] at hcs
    obtain ⟨rfl, rfl, rfl⟩ := hcs
    simp only [if_true] at hmm
    subst hmm
    have cells : ∀ i, i < len → W.cell? (a.add (i * 2)) = some (.int .i64 (numOfV (V0 i))) ∧ W.cell? (a.add (i * 2 + 1)) = some (.int .u8 (numOfV (V1 i))) := by
      intro i hi
      obtain ⟨c0, c1, t0, t1⟩ := hcell i (by omega)
      obtain ⟨n0, e0, _, _⟩ := DataW.trod_int Try.underlying3 t0
      obtain ⟨n1, e1, _, _⟩ := DataW.trod_int Try.underlying5 t1
      simp only [List.cons.injEq, and_true] at e0 e1
      rw [c0, c1, e0, e1]
      exact ⟨rfl, rfl⟩
    refine ⟨⟨some a, m, (List.range len).map fun i => (numOfV (V0 i), numOfV (V1 i))⟩, by simp [Pm.v], ⟨by simpa using hl, hm, by simp, a.block, a.off, ?_, ?_⟩⟩
    · intro h0
      simp at h0
      have := (cells 0 (by omega)).1
      rw [Nat.zero_mul] at this
      exact congrArg some (addr_plain this)
    · intro i hi
      simp at hi
      have z0 := (cells 0 (by omega)).1
      rw [Nat.zero_mul] at z0
      have h0 := cell_at z0 (cells i hi).1
      have h1 := cell_at z0 (cells i hi).2
      rw [← Nat.add_assoc] at h1
      simpa using ⟨h0, h1⟩

theorem bytes5 : Try.prog.bytesOf 5 = 1 := by kernel_rfl

end Go.Proofs.Ytjgheojfdkfmkaa
