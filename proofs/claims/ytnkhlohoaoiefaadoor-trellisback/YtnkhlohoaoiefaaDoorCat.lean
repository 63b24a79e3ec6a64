/-
  slices.Grow of nothing, slices.Concat of two words.
-/
import Derived.Test.YtnkhlohoaoiefaaDoorOw
import Derived.Lib.AppendZerosOnto
import Derived.Deep.RegionWith
namespace Go.Proofs.YtnkhlohoaoiefaaDoor
open Go.RowKit

theorem ext_drew (w : World) : Ext w w.drew := (Ext.refl w).drewN 1

set_option maxHeartbeats 2000000 in
theorem grow_any (n : Nat) (w : World) (hn : 0 < n) (hb : n ≤ 1000) :
    Calls Tryd.prog 26 #[.slice none 0 0, .int .i64 n] w fun e w' => (∃ v, e = .returned v ∧ OwnB w w' v []) := by
  obtain ⟨i0, hi, hz0, hz1, hz2⟩ := info_parts info4
  have hr : ∀ ty, (Builtin.append_ #[22, 3] ty #[.slice none 0 0, .int .i64 (n : Int)]).run Tryd.prog w = .ok (.slice (some ⟨w.heap.size, 0, none⟩) (0 + n) (grownCap w (0 + n) 0 4))
      (w.drew.alloc (.cells (([] : List Value).toArray ++ Builtin.zeroCells (Value.cells (.bool false)) n ++ Builtin.zeroCells (Value.cells (.bool false)) (grownCap w (0 + n) 0 4 - (0 + n))) 4)) := fun ty =>
    Lib.run_append_grow_zeros w 22 3 ty 4 i0 (.bool false) .i64 .i64 Tryd.underlying22 (by kernel_rfl) hi hz0 none 0 0 [] (run_firstCells_none w.drew i0.size 0 0 0) n hn (by omega) (by omega) (by omega) (by rw [hz2]; omega) (by
      rw [hz2]
      exact growslice_fits (by omega) (by omega))
  have hG := grownCap_ge w (0 + n) 0 4
  have hG2 := grownCap_le_maxLen w (0 + n) 0 4 (by unfold maxLen; omega)
  generalize grownCap w (0 + n) 0 4 = G at *
  rw [Nat.zero_add] at hr hG
  have hn1 : ¬ ((n : Int) < 0) := by omega
  have hn2 : (n : Int) > 0 := by omega
  have hown : Hid (∀ W, W = w.drew.alloc (.cells (([] : List Value).toArray ++ Builtin.zeroCells (Value.cells (.bool false)) n ++ Builtin.zeroCells (Value.cells (.bool false)) (G - n)) 4) → OwnB w W (.slice (some ⟨w.heap.size, 0, none⟩) 0 G) []) := by
    rintro W rfl
    refine ⟨(ext_drew w).alloc _, by simp, .inr ⟨w.heap.size, G, _, rfl, Nat.le_refl _, heap_alloc_new w.drew _, Nat.zero_le _, hG2, ?_, by simp⟩⟩
    simp only [Array.size_append, size_zeroCells]
    simp [Value.cells]
    omega
  generalize (w.drew.alloc (.cells (([] : List Value).toArray ++ Builtin.zeroCells (Value.cells (.bool false)) n ++ Builtin.zeroCells (Value.cells (.bool false)) (G - n)) 4)) = W at hr hown
  unfold maxLen at hG2
  clear hi hz0 hz1 hz2 hb
  go_enter Tryd.func26, Tryd.ntmps26
  go_wp2_with (at_builtin; refine Lib.wpList_append_run _ rfl _ _ _ _ rfl _ _ rfl rfl _ _ (hr _) ?_)
  go_ret
  exact ⟨_, rfl, hown.out _ rfl⟩

set_option maxHeartbeats 2000000 in
theorem concat_any (x y : Wd) (B : Nat) (w : World) (hx : Bits w x) (hy : Bits w y) (h1 : w.cell? ⟨B, 0, none⟩ = some x.v) (h2 : w.cell? ⟨B, 1, none⟩ = some y.v) (hp : 0 < x.l.length + y.l.length) (hb : x.l.length + y.l.length ≤ 1000) :
    Calls Tryd.prog 18 #[.slice (some ⟨B, 0, none⟩) 2 2] w fun e w' => (∃ v, e = .returned v ∧ OwnB w w' v (x.l ++ y.l)) := by
  obtain ⟨xa, xc, xz⟩ := x
  obtain ⟨ya, yc, yz⟩ := y
  simp only [Wd.v] at h1 h2
  have HX : Hid (Bits w ⟨xa, xc, xz⟩) := hx
  have HY : Hid (Bits w ⟨ya, yc, yz⟩) := hy
  simp only at hp hb
  obtain ⟨n, hn⟩ : ∃ n, xz.length = n := ⟨_, rfl⟩
  obtain ⟨m, hm⟩ : ∃ m, yz.length = m := ⟨_, rfl⟩
  have HN : Hid (xz.length = n) := hn
  have HM : Hid (yz.length = m) := hm
  rw [hn] at h1 hp hb
  rw [hm] at h2 hp hb
  clear hn hm hx hy
  have hnm : ¬ ((n : Int) + (m : Int) < 0) := by omega
  have hn0 : ¬ ((n : Int) < 0) := by omega
  have G := grow_any (n + m) w (by omega) hb
  rw [Int.natCast_add] at G
  go_enter Tryd.func18, Tryd.ntmps18
  go_wp2
  go_loopg [3, 5, 11] 2 (fun gg s3 _ s11 wr => wr = w ∧ ∃ k : Nat, k ≤ 2 ∧ 2 - k ≤ gg ∧ s11 = .int .i64 k ∧ s3 = .int .i64 (if k = 0 then 0 else if k = 1 then (n : Int) else (n : Int) + m))
  case atStart => exact ⟨rfl, 0, by omega, by omega, rfl, rfl⟩
  case round =>
    obtain ⟨rfl, k, hk, hgg, rfl, rfl⟩ := hrel
    obtain rfl | rfl | rfl : k = 0 ∨ k = 1 ∨ k = 2 := by omega
    · simp only [if_true]
      go_wp2
      go_roundg 1
      case measure => omega
      case rel => exact ⟨rfl, 1, by omega, by omega, by go_num, by simp⟩
    · simp only [if_true, Nat.one_ne_zero, if_false]
      go_wp2
      go_roundg 0
      case measure => omega
      case rel => exact ⟨rfl, 2, by omega, by omega, by go_num, by simp⟩
    · have e2 : (if (2 : Nat) = 0 then (0 : Int) else if (2 : Nat) = 1 then (n : Int) else (n : Int) + m) = (n : Int) + m := by simp
      rw [e2]
      clear e2
      obtain ⟨wo, rfl⟩ : ∃ wo, wo = wr := ⟨_, rfl⟩
      go_wp2_with fail
      refine G.mono ?_
      rintro e w1 ⟨v, rfl, hv⟩
      have HV : Hid (OwnB wo w1 v []) := hv
      have he : Ext wo w1 := hv.1
      clear hv G
      go_wp2
      go_loopg [6, 8, 27] 2 (fun gg s6 _ s27 wq => ∃ (k : Nat) (sv : Value), k ≤ 2 ∧ 2 - k ≤ gg ∧ s27 = .int .i64 k ∧ sv = s6 ∧ Aside (OwnB wo wq sv (if k = 0 then [] else if k = 1 then xz else xz ++ yz)))
      case atStart => exact ⟨0, _, by omega, by omega, rfl, rfl, HV.out⟩
      case round =>
        obtain ⟨k, s6, hk, hgg, rfl, rfl, A⟩ := hrel
        have c1 := A.out.1.cell h1
        have c2 := A.out.1.cell h2
        have NX : Hid (Bits wr ⟨xa, xc, xz⟩) := HX.out.ext A.out.1
        have NY : Hid (Bits wr ⟨ya, yc, yz⟩) := HY.out.ext A.out.1
        obtain rfl | rfl | rfl : k = 0 ∨ k = 1 ∨ k = 2 := by omega
        · have A0 : Hid (OwnB wo wr s6 []) := by show OwnB wo wr s6 []; simpa using A.out
          have ex : Hid ((Value.slice xa n xc) = Wd.v ⟨xa, xc, xz⟩) := by show _ = _; rw [Wd.v, HN.out]
          have bx : Hid (([] : List Bool).length + xz.length ≤ 140737488355328) := by show _ ≤ _; rw [HN.out]; simp only [List.length_nil]; omega
          clear A
          go_wp2_with (at_builtin; refine wpList_appendBits rfl _ _ rfl wo _ s6 (by rfl) [] A0.out ⟨xa, xc, xz⟩ (by exact ex.out) NX.out bx.out ?_; intro v' w2 B2)
          have B2' : Hid (OwnB wo w2 v' xz) := by show OwnB wo w2 v' xz; simpa using B2
          clear B2
          go_wp2
          go_roundg 1
          case measure => omega
          case rel => exact ⟨1, _, by omega, by omega, by go_num, rfl, by show OwnB _ _ _ _; simpa using B2'.out⟩
        · have A0 : Hid (OwnB wo wr s6 xz) := by show OwnB wo wr s6 xz; simpa using A.out
          have ex : Hid ((Value.slice ya m yc) = Wd.v ⟨ya, yc, yz⟩) := by show _ = _; rw [Wd.v, HM.out]
          have bx : Hid (xz.length + yz.length ≤ 140737488355328) := by show _ ≤ _; rw [HN.out, HM.out]; omega
          clear A
          go_wp2_with (at_builtin; refine wpList_appendBits rfl _ _ rfl wo _ s6 (by rfl) xz A0.out ⟨ya, yc, yz⟩ (by exact ex.out) NY.out bx.out ?_; intro v' w2 B2)
          have B2' : Hid (OwnB wo w2 v' (xz ++ yz)) := B2
          clear B2
          go_wp2
          go_roundg 0
          case measure => omega
          case rel => exact ⟨2, _, by omega, by omega, by go_num, rfl, by show OwnB _ _ _ _; simpa using B2'.out⟩
        · have A0 : Hid (OwnB wo wr s6 (xz ++ yz)) := by show OwnB wo wr s6 (xz ++ yz); simpa using A.out
          clear A
          go_wp2
          go_ret
          exact ⟨s6, rfl, A0.out⟩

end Go.Proofs.YtnkhlohoaoiefaaDoor
