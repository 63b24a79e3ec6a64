/-
  slices.Clone of bits.
-/
import Derived.Test.YtakojkekelhobaaOw
import Derived.Test.YtakojkekelhobaaBt
namespace Go.Proofs.Ytakojkekelhobaa
open Go.RowKit
set_option linter.unusedVariables false

theorem clone_any (x : Wd) (w : World) (hx : Bits w x) (h0 : 0 < x.l.length) (hl : x.l.length ≤ 1000) : Calls Try.prog 30 #[x.v] w fun e w' => ∃ v, e = .returned v ∧ OwnB w w' v x.l := by
  obtain ⟨p, hv⟩ := hx.some h0
  have HX : Hid (Bits (w.alloc (.cells #[] 4)) x) := hx.ext ((Ext.refl w).alloc _)
  have ho : Hid (OwnB w (w.alloc (.cells #[] 4)) (.slice (some ⟨w.heap.size, 0, none⟩) 0 0) []) := OwnB.empty w
  have HB : Hid (([] : List Bool).length + x.l.length ≤ 140737488355328) := by show _ ≤ _; rw [List.length_nil]; omega
  have hm1 := hx.1
  have hm2 := hx.2.1
  unfold maxLen at hm2
  obtain ⟨n, hn⟩ : ∃ n, x.l.length = n := ⟨_, rfl⟩
  obtain ⟨c, hc⟩ : ∃ c, x.c = c := ⟨_, rfl⟩
  rw [hn, hc] at hv hm1
  rw [hn] at hl h0
  rw [hc] at hm2
  have HV : Hid (x.v = .slice (some p) n c) := hv
  rw [hv]
  clear hv hx hn hc
  have he : ∀ w : World, (binOp .eql 29 (.slice (some p) n c) (.slice none 0 0)).run Try.prog w = .ok (.bool false) w := fun _ => rfl
  go_enter Try.func30, Try.ntmps30
  go_wp2_with (at_builtin; refine wpList_appendBits rfl _ _ rfl w _ _ (by rfl) [] ho.out x (by exact HV.out.symm) HX.out HB.out ?_; intro v' w1 B; rw [List.nil_append] at B)
  go_ret
  exact ⟨_, rfl, B⟩

end Go.Proofs.Ytakojkekelhobaa
