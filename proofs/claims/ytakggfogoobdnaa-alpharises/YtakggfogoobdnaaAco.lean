/-
  alpha.Cost and alpha.Lens, of whatever weights.
-/
import Derived.Test.YtakggfogoobdnaaBst
namespace Go.Proofs.Ytakggfogoobdnaa
open Go.RowKit

theorem werl_lz {z : List Int} (h : werl z = 0) : ∃ v : List Nat, z = lz v ∧ v.length ≤ 8 ∧ ∀ x ∈ v, x ≤ 1048576 := by
  obtain ⟨h8, v, hz, hv⟩ := werl_nat h
  have hz' : z = lz v := hz
  refine ⟨v, hz', ?_, hv⟩
  rw [hz', lz_length] at h8
  exact h8

set_option maxHeartbeats 1000000 in
theorem acostG_any (x : Nm) (v : List Nat) (w : World) (hx : Nums w x) (hxv : x.z = lz v) (hok : werl x.z = 0) :
    Calls Try.prog 9 #[x.v] w fun e w' => ∃ l : List Nat, e = .returned (.tuple #[.int .i64 (dot v l : Nat), .int .i64 0]) ∧ Opt v l ∧ Ext w w' := by
  have HCK := hcheck_any x w hx
  rw [hok] at HCK
  have HB : Hid (∀ W, Ext w W → Calls Try.prog 24 #[x.v] W fun e w' => ∃ (l : List Nat) (g c : Nat), e = .returned (.agg #[.int .i64 (dot v l : Nat), .slice (some ⟨g, 0, none⟩) v.length c]) ∧ OwnN W w' (.slice (some ⟨g, 0, none⟩) v.length c) (lz l) ∧ Opt v l) := by
    intro W e
    obtain ⟨v', hv', h8, hw⟩ := werl_lz hok
    have : v' = v := by
      rw [hxv] at hv'
      have := congrArg (List.map Int.toNat) hv'
      simpa [lz, Function.comp_def] using this.symm
    subst this
    exact best_all 8 x v' W (hx.ext e) hxv h8 h8 hw
  obtain ⟨xa, xc, xz⟩ := x
  simp only [Nm.v] at *
  clear hx hok hxv
  generalize xz.length = n at *
  go_enter Try.func9, Try.ntmps9
  go_wp2_with fail
  refine HCK.mono ?_
  rintro e w1 ⟨rfl, hb⟩
  have hbb := HB.out w1 hb
  clear HCK HB
  go_wp2_with fail
  refine hbb.mono ?_
  rintro e w2 ⟨l, g, c, rfl, hown, hopt⟩
  have F : Hid (Opt v l ∧ Ext w w2) := ⟨hopt, hb.trans hown.1⟩
  clear hown hopt hbb hb
  have hfd : ∀ W : World, (Instr.field 47 (.agg #[.int .i64 (dot v l : Nat), .slice (some ⟨g, 0, none⟩) v.length c]) 0).run Try.prog W = .ok (.int .i64 (dot v l : Nat)) W := fun _ => by kernel_rfl
  go_wp2
  go_ret2
  exact ⟨l, rfl, F.out.1, F.out.2⟩

set_option maxHeartbeats 1000000 in
theorem acostB_any (x : Nm) (w : World) (hx : Nums w x) (hok : werl x.z ≠ 0) :
    Calls Try.prog 9 #[x.v] w fun e w' => e = .returned (.tuple #[.int .i64 0, .int .i64 (werl x.z)]) ∧ Ext w w' := by
  have HCK := hcheck_any x w hx
  obtain ⟨a, c, z⟩ := x
  simp only [Nm.v] at *
  clear hx
  generalize werl z = r at *
  generalize z.length = n at *
  have hr : (r == 0) = false := by simpa using hok
  go_enter Try.func9, Try.ntmps9
  go_wp2_with (go_at_call 23; refine HCK.mono ?_; rintro e w1 ⟨rfl, hb⟩)
  go_ret2
  exact ⟨rfl, hb⟩

set_option maxHeartbeats 1000000 in
theorem alensG_any (x : Nm) (v : List Nat) (w : World) (hx : Nums w x) (hxv : x.z = lz v) (hok : werl x.z = 0) :
    Calls Try.prog 12 #[x.v] w fun e w' => ∃ (l : List Nat) (y : Nm), e = .returned (.tuple #[y.v, .int .i64 0]) ∧ y.z = lz l ∧ Nums w' y ∧ Opt v l ∧ Ext w w' := by
  have HCK := hcheck_any x w hx
  rw [hok] at HCK
  have HB : Hid (∀ W, Ext w W → Calls Try.prog 24 #[x.v] W fun e w' => ∃ (l : List Nat) (g c : Nat), e = .returned (.agg #[.int .i64 (dot v l : Nat), .slice (some ⟨g, 0, none⟩) v.length c]) ∧ OwnN W w' (.slice (some ⟨g, 0, none⟩) v.length c) (lz l) ∧ Opt v l) := by
    intro W e
    obtain ⟨v', hv', h8, hw⟩ := werl_lz hok
    have : v' = v := by
      rw [hxv] at hv'
      have := congrArg (List.map Int.toNat) hv'
      simpa [lz, Function.comp_def] using this.symm
    subst this
    exact best_all 8 x v' W (hx.ext e) hxv h8 h8 hw
  obtain ⟨xa, xc, xz⟩ := x
  simp only [Nm.v] at *
  clear hx hok hxv
  generalize xz.length = n at *
  go_enter Try.func12, Try.ntmps12
  go_wp2_with fail
  refine HCK.mono ?_
  rintro e w1 ⟨rfl, hb⟩
  have hbb := HB.out w1 hb
  clear HCK HB
  go_wp2_with fail
  refine hbb.mono ?_
  rintro e w2 ⟨l, g, c, rfl, hown, hopt⟩
  have F : Hid (∃ y : Nm, Value.slice (some ⟨g, 0, none⟩) v.length c = y.v ∧ y.z = lz l ∧ Nums w2 y) := hown.nums
  have F2 : Hid (Opt v l ∧ Ext w w2) := ⟨hopt, hb.trans hown.1⟩
  clear hown hopt hbb hb
  have hfd : ∀ W : World, (Instr.field 47 (.agg #[.int .i64 (dot v l : Nat), .slice (some ⟨g, 0, none⟩) v.length c]) 1).run Try.prog W = .ok (.slice (some ⟨g, 0, none⟩) v.length c) W := fun _ => by kernel_rfl
  go_wp2
  go_ret2
  obtain ⟨y, h1, h2, h3⟩ := F.out
  refine ⟨l, y, ?_, h2, h3, F2.out.1, F2.out.2⟩
  have h1' : Value.slice y.a y.z.length y.c = .slice (some ⟨g, 0, none⟩) v.length c := h1.symm
  rw [h1']
  rfl

set_option maxHeartbeats 1000000 in
theorem alensB_any (x : Nm) (w : World) (hx : Nums w x) (hok : werl x.z ≠ 0) :
    Calls Try.prog 12 #[x.v] w fun e w' => e = .returned (.tuple #[.slice none 0 0, .int .i64 (werl x.z)]) ∧ Ext w w' := by
  have HCK := hcheck_any x w hx
  obtain ⟨a, c, z⟩ := x
  simp only [Nm.v] at *
  clear hx
  generalize werl z = r at *
  generalize z.length = n at *
  have hr : (r == 0) = false := by simpa using hok
  go_enter Try.func12, Try.ntmps12
  go_wp2_with (go_at_call 23; refine HCK.mono ?_; rintro e w1 ⟨rfl, hb⟩)
  go_ret2
  exact ⟨rfl, hb⟩

end Go.Proofs.Ytakggfogoobdnaa
