/-
  bose.leftOf, bose.leftOfOne; arrays of fifteen bools.
-/
import Derived.Test.YtfngcoijbnhheaaFac
import Derived.Test.YtfngcoijbnhheaaBo
namespace Go.Proofs.Ytfngcoijbnhheaa
open Go.RowKit
set_option linter.unusedVariables false

theorem rce15 : rce 465 15 = 0 := by decide

theorem leftOf_any (x : Wd) (hl : x.l.length = 15) (w : World) (hx : Bits w x) : Calls Try.prog 18 #[x.v] w fun e w' => e = .returned (.int .u32 (rs 465 x.l : Nat)) ∧ w' = w := by
  have c1 := Rest_good 465 x G465 (by omega) (by rw [hl]; exact rce15) w hx
  simp only [Wd.v] at *
  generalize rs 465 x.l = r at *
  rw [hl] at *
  go_enter Try.func18, Try.ntmps18
  go_wp2_with fail
  refine c1.mono ?_
  rintro e w1 ⟨rfl, rfl⟩
  clear c1
  go_wp2
  go_ret
  exact ⟨rfl, rfl⟩

theorem under41 : Try.prog.underlying 41 = some (.array 15 4) := by kernel_rfl
theorem size41 : (Try.prog.info? 41).map (·.size) = some 15 := by kernel_rfl
theorem zero41 : (Try.prog.info? 41).map (fun i => (i.zero, i.size)) = some (some (.agg (Array.replicate 15 (.bool false))), 15) := by kernel_rfl

/-- A row of bits of one's own, of whatever type, as a word. -/
theorem Row.bitsT {w : World} {B : Nat} {t : TypeId} {l : List Bool} (h : Row w B t (bv l)) (hm : l.length ≤ maxLen) : Bits w ⟨some ⟨B, 0, none⟩, l.length, l⟩ := by
  refine ⟨Nat.le_refl _, hm, by simp, B, 0, fun _ => rfl, fun i hi => ?_⟩
  have hi' : i < l.length := hi
  have := h.cell i (by simpa using hi')
  simpa [List.getD_eq_getElem?_getD, hi'] using this
theorem un_bv (p : Nat) : (List.replicate 15 (Value.bool false)).set p (.bool true) = bv (un p) := by
  apply List.ext_getElem
  · simp [un]
  · intro i h1 h2
    rw [List.getElem_set]
    by_cases h : p = i
    · subst h; simp [un]
    · rw [if_neg h, List.getElem_replicate]; simp [un, Ne.symm h]

theorem leftOfOne_any (p : Nat) (hp : p < 15) (w : World) : Calls Try.prog 26 #[.int .i64 p] w fun e w' => e = .returned (.int .u32 (lo p : Nat)) ∧ Ext w w' := by
  have hR : ∀ L : List Value, L = bv (un p) → Calls Try.prog 18 #[.slice (some ⟨w.heap.size, 0, none⟩) 15 15] (w.alloc (.cells L.toArray 41)) fun e w' => e = .returned (.int .u32 (lo p : Nat)) ∧ w' = w.alloc (.cells L.toArray 41) := fun L hL => by
    have hr : Row (w.alloc (.cells L.toArray 41)) w.heap.size 41 (bv (un p)) := by
      show (w.alloc _).heap[_]? = _
      rw [heap_alloc_new, hL]
    have hb := hr.bitsT (by show (un p).length ≤ _; unfold un maxLen; rw [bl_len]; omega)
    have := leftOf_any _ (by show (un p).length = 15; exact bl_len _ _) _ hb
    simp only [Wd.v] at this
    rw [lo_is p hp, show (un p).length = 15 from bl_len _ _] at this
    exact this
  go_enter Try.func26, Try.ntmps26
  go_wp2_with fail
  refine (hR _ (un_bv p)).mono ?_
  rintro e w1 ⟨rfl, rfl⟩
  clear hR
  go_wp2
  go_ret
  exact ⟨rfl, (Ext.refl w).alloc _⟩

end Go.Proofs.Ytfngcoijbnhheaa
