/-
  muller.mostVotes' closure; slices.IndexFunc of words.
-/
import Derived.Test.YtakojkekelhobaaSo
import Derived.Shelf.Abstract
namespace Go.Proofs.Ytakojkekelhobaa
open Go.RowKit
set_option linter.unusedVariables false

theorem getD_get {α : Type} {l : List α} {i : Nat} {z : α} (h : i < l.length) : l.getD i z = l[i] := by
  rw [List.getD_eq_getElem?_getD, List.getElem?_eq_getElem h]; rfl

theorem same_any (y d g : Nat) (hy : y < 4096) (hd : d ≤ 32) (w : World) (hc : w.cell? ⟨g, 0, none⟩ = some (.int .i64 (d : Nat))) :
    Calls Try.prog 32 #[.int .u32 y, .pointer (some ⟨g, 0, none⟩)] w fun e w' => e = .returned (.bool (pop y == d)) ∧ Ext w w' := by
  have DG : Hid (∀ W, Calls Try.prog 23 #[.int .u32 (y : Nat)] W fun e w' => e = .returned (.int .i64 (pop y : Nat)) ∧ ∃ d, w' = W.drewN d) := fun W => degreeOf_any y hy W
  have bn : (((pop y : Nat) : Int) == (d : Int)) = (pop y == d) := by rw [Bool.eq_iff_iff, beq_iff_eq, beq_iff_eq]; omega
  generalize pop y = p at *
  have HB : Hid (((p : Int) == (d : Int)) = (p == d)) := bn
  clear bn
  have hcd : w.drew.cell? ⟨g, 0, none⟩ = some (.int .i64 (d : Nat)) := hc
  have HC : Hid (∀ n, (w.drewN n).cell? ⟨g, 0, none⟩ = some (.int .i64 (d : Nat))) := fun n => hc
  go_enter Try.func32, Try.ntmps32
  go_wp2
  go_quiet ((go_at_call 23; exact Calls.quiet_of (DG.out _)))
  go_wp2
  go_ret
  exact ⟨ret_bool HB.out, (Ext.refl w).drewN _⟩

theorem firstU_any (x : Um) (f : Nat) (lb : Array Value) (p : Nat → Bool) (s : Nat) (hs : s < x.z.length) (hps : p (x.z.getD s 0) = true) (hno : ∀ j, j < s → p (x.z.getD j 0) = false) (w : World)
    (eg : ∀ args w, (callFunc f args).run Try.prog w = .ok (.enter f args) w) (hg : Us w x)
    (hp : ∀ k W, k < x.z.length → Ext w W → Calls Try.prog f (#[.int .u32 (x.z.getD k 0 : Nat)] ++ lb) W fun e w' => e = .returned (.bool (p (x.z.getD k 0))) ∧ Ext W w') :
    Calls Try.prog 31 #[x.v, .func (.func f) #[] lb] w fun e w' => e = .returned (.int .i64 (s : Nat)) ∧ Ext w w' := by
  obtain ⟨a, c, g⟩ := x
  obtain ⟨h1, h2, _, b, o, h4, h5⟩ := hg
  simp only at h1 h2 h4 h5 hp hs hps hno
  simp only [Um.v]
  unfold maxLen at h2
  have H5 : Hid (∀ i, i < g.length → w.cell? ⟨b, o + i, none⟩ = some (.int .u32 (g.getD i 0 : Nat))) := h5
  have HP : Hid (∀ k W, k < g.length → Ext w W → Calls Try.prog f (#[.int .u32 (g.getD k 0 : Nat)] ++ lb) W fun e w' => e = .returned (.bool (p (g.getD k 0))) ∧ Ext W w') := hp
  have YES : Hid (p (g.getD s 0) = true) := hps
  have NO : Hid (∀ j, j < s → p (g.getD j 0) = false) := hno
  clear h5 hp hps hno
  generalize g.length = n at *
  go_enter Try.func31, Try.ntmps31
  go_wp2
  go_loopg [5, 8] n (fun gg _ s8 wr => ∃ k : Nat, k ≤ s ∧ n - k ≤ gg ∧ s8 = .int .i64 k ∧ Aside (Ext w wr))
  case atStart => exact ⟨0, Nat.zero_le _, by omega, rfl, Ext.refl w⟩
  case round =>
    obtain ⟨k, hk, hgg, rfl, BW⟩ := hrel
    have hltz : (k : Int) < (n : Int) := by omega
    obtain rfl := h4 (by omega)
    have e1 := BW.out.cell (H5.out k (by omega))
    have hcall := HP.out k wr (by omega) BW.out
    have BW' : Hid (Ext w wr) := BW.out
    by_cases hks : k = s
    · subst hks
      have hq := YES.out
      rw [hq] at hcall
      clear YES NO HP H5 BW hq
      generalize g.getD k 0 = y at *
      go_wp2_with (go_at_fn f; refine hcall.mono ?_; rintro e w' ⟨rfl, hb'⟩)
      go_ret
      exact ⟨rfl, BW'.out.trans hb'⟩
    · have hq := NO.out k (by omega)
      have hkn : k < s := by omega
      clear hks
      rw [hq] at hcall
      clear YES NO HP H5 BW hq
      generalize g.getD k 0 = y at *
      go_wp2_with (go_at_fn f; refine hcall.mono ?_; rintro e w' ⟨rfl, hb'⟩)
      go_roundg (n - (k + 1))
      case measure => omega
      case rel => exact ⟨k + 1, by omega, by omega, by go_num, BW'.out.trans hb'⟩

end Go.Proofs.Ytakojkekelhobaa
