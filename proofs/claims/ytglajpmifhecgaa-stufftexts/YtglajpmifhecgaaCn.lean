/-
  slices.Grow of nothing, slices.Concat of words.
-/
import Derived.Test.YtglajpmifhecgaaSl
import Derived.Lib.AppendZerosOnto
namespace Go.Proofs.Ytglajpmifhecgaa
open Go.RowKit

theorem ext_drew (w : World) : Ext w w.drew := (Ext.refl w).drewN 1

set_option maxHeartbeats 2000000 in
theorem grow_any (n : Nat) (w : World) (hb : n ≤ 100000) :
    Calls Try.prog 30 #[.slice none 0 0, .int .i64 n] w fun e w' => (∃ v, e = .returned v ∧ OwnB w w' v []) := by
  by_cases h0 : n = 0
  · subst h0
    go_enter Try.func30, Try.ntmps30
    go_wp2
    go_ret
    exact ⟨_, rfl, OwnB.nil (Ext.refl _)⟩
  have hn : 0 < n := by omega
  obtain ⟨i0, hi, hz0, hz1, hz2⟩ := info_parts info4
  have hr : ∀ ty, (Builtin.append_ #[22, 3] ty #[.slice none 0 0, .int .i64 (n : Int)]).run Try.prog w = .ok (.slice (some ⟨w.heap.size, 0, none⟩) (0 + n) (grownCap w (0 + n) 0 4))
      (w.drew.alloc (.cells (([] : List Value).toArray ++ Builtin.zeroCells (Value.cells (.bool false)) n ++ Builtin.zeroCells (Value.cells (.bool false)) (grownCap w (0 + n) 0 4 - (0 + n))) 4)) := fun ty =>
    Lib.run_append_grow_zeros w 22 3 ty 4 i0 (.bool false) .i64 .i64 Try.underlying22 (by kernel_rfl) hi hz0 none 0 0 [] (run_firstCells_none w.drew i0.size 0 0 0) n hn (by omega) (by omega) (by omega) (by rw [hz2]; omega) (by
      rw [hz2]
      exact growslice_fits (by omega) (by omega))
  have hG := grownCap_ge w (0 + n) 0 4
  have hG2 := grownCap_le_maxLen w (0 + n) 0 4 (by unfold maxLen; omega)
  generalize grownCap w (0 + n) 0 4 = G at *
  rw [Nat.zero_add] at hr hG
  have hn1 : ¬ ((n : Int) < 0) := by omega
  have hn2 : (n : Int) > 0 := by omega
  have hown : Hid (∀ W, W = w.drew.alloc (.cells (([] : List Value).toArray ++ Builtin.zeroCells (Value.cells (.bool false)) n ++ Builtin.zeroCells (Value.cells (.bool false)) (G - n)) 4) → OwnB w W (.slice (some ⟨w.heap.size, 0, none⟩) 0 G) []) := by
    rintro W rfl
    refine ⟨(ext_drew w).alloc _, by simp, .inr ⟨w.heap.size, G, _, rfl, Nat.le_refl _, heap_alloc_new w.drew _, Nat.zero_le _, hG2, ?_, by simp⟩⟩
    simp only [Array.size_append, size_zeroCells]
    simp [Value.cells]
    omega
  generalize (w.drew.alloc (.cells (([] : List Value).toArray ++ Builtin.zeroCells (Value.cells (.bool false)) n ++ Builtin.zeroCells (Value.cells (.bool false)) (G - n)) 4)) = W at hr hown
  unfold maxLen at hG2
  clear hi hz0 hz1 hz2 hb h0
  go_enter Try.func30, Try.ntmps30
  go_wp2_with (at_builtin; refine Lib.wpList_append_run _ rfl _ _ _ _ rfl _ _ rfl rfl _ _ (hr _) ?_)
  go_ret
  exact ⟨_, rfl, hown.out _ rfl⟩

/-- The bits of words, one behind the other. -/
def cat (g : List Wd) : List Bool := g.flatMap (·.l)

theorem cat_take {g : List Wd} {k : Nat} (h : k < g.length) : cat (g.take (k + 1)) = cat (g.take k) ++ g[k].l := by
  unfold cat
  rw [List.take_succ_eq_append_getElem h, List.flatMap_append]
  simp

theorem cat_take_le {g : List Wd} {k : Nat} : (cat (g.take k)).length ≤ (cat g).length := by
  have : cat g = cat (g.take k) ++ cat (g.drop k) := by
    unfold cat
    rw [← List.flatMap_append, List.take_append_drop]
  rw [this, List.length_append]
  omega

theorem getElem?_of_lt {g : List Wd} {k : Nat} (h : k < g.length) : ∃ x, g[k]? = some x ∧ g[k] = x := ⟨g[k], List.getElem?_eq_getElem h, rfl⟩

set_option maxHeartbeats 2000000 in
theorem concat_any (a : Option Addr) (c : Nat) (g : List Wd) (w : World) (hg : Wds w a c g) (hb : (cat g).length ≤ 100000) :
    Calls Try.prog 24 #[.slice a g.length c] w fun e w' => (∃ v, e = .returned v ∧ OwnB w w' v (cat g)) := by
  obtain ⟨h1, h2, h3, b, o, h4, h5⟩ := hg
  obtain ⟨n, hn⟩ : ∃ n, g.length = n := ⟨_, rfl⟩
  have HN : Hid (g.length = n) := hn
  have H3 : Hid (∀ x ∈ g, Bits w x) := h3
  have HB : Hid ((cat g).length ≤ 100000) := hb
  have d0 : Hid (∀ i, i < n → ∃ x : Wd, x ∈ g ∧ w.cell? ⟨b, o + i, none⟩ = some x.v ∧ cat (g.take (i + 1)) = cat (g.take i) ++ x.l) := fun i hi =>
    ⟨g[i]'(by omega), List.getElem_mem _, h5 i (by omega), cat_take (by omega)⟩
  rw [hn] at h1 h4 ⊢
  unfold maxLen at h2
  clear h3 h5 hn hb
  go_enter Try.func24, Try.ntmps24
  go_wp2
  go_loopg [3, 5, 11] n (fun gg s3 _ s11 wr => wr = w ∧ ∃ k m : Nat, k ≤ n ∧ n - k ≤ gg ∧ m ≤ 100000 ∧ s11 = .int .i64 k ∧ s3 = .int .i64 m ∧ Aside (m = (cat (g.take k)).length))
  case atStart => exact ⟨rfl, 0, 0, by omega, by omega, by omega, rfl, rfl, by show 0 = _; simp [cat]⟩
  case round =>
    obtain ⟨rfl, k, m, hk, hgg, hm, rfl, rfl, hmm⟩ := hrel
    by_cases hlt : k < n
    · have hltz : (k : Int) < (n : Int) := by omega
      obtain rfl := h4 (by omega)
      obtain ⟨x, hxg, hxc, hcat⟩ := d0.out k hlt
      obtain ⟨xa, xc, xl⟩ := x
      simp only [Wd.v] at hxc hcat
      have hm2 : Aside (m + xl.length = (cat (g.take (k + 1))).length) := by
        show _ = _
        rw [hcat, List.length_append, hmm.out]
      have hm3 : m + xl.length ≤ 100000 := by
        have h5 := hm2.out
        have h6 := cat_take_le (g := g) (k := k + 1)
        have h7 := HB.out
        omega
      clear hxg hcat hmm d0
      generalize xl.length = q at *
      go_wp2
      go_roundg (n - (k + 1))
      case measure => omega
      case rel => exact ⟨rfl, k + 1, m + q, by omega, by omega, hm3, by go_num, by go_num, hm2.out⟩
    · have hkn : k = n := by omega
      subst hkn
      have G := grow_any m wr hm
      clear hmm hm
      obtain ⟨wo, rfl⟩ : ∃ wo, wo = wr := ⟨_, rfl⟩
      go_wp2_with fail
      refine G.mono ?_
      rintro e w1 ⟨v, rfl, hv⟩
      have HV : Hid (OwnB wo w1 v []) := hv
      clear hv G
      go_wp2
      go_loopg [6, 8, 27] k (fun gg s6 _ s27 wq => ∃ (j : Nat) (sv : Value), j ≤ k ∧ k - j ≤ gg ∧ s27 = .int .i64 j ∧ sv = s6 ∧ Aside (OwnB wo wq sv (cat (g.take j))))
      case atStart => exact ⟨0, _, by omega, by omega, rfl, rfl, by show OwnB _ _ _ _; simpa [cat] using HV.out⟩
      case round =>
        obtain ⟨j, s6, hj, hgg, rfl, rfl, A⟩ := hrel
        clear HV
        by_cases hlt : j < k
        · have hltz : (j : Int) < (k : Int) := by omega
          obtain rfl := h4 (by omega)
          obtain ⟨x, hxg, hxc, hcat⟩ := d0.out j hlt
          have hxc := A.out.1.cell hxc
          obtain ⟨xa, xc, xl⟩ := x
          have NX : Hid (Bits wr ⟨xa, xc, xl⟩) := (H3.out _ hxg).ext A.out.1
          simp only [Wd.v] at hxc hcat
          have bx : Hid ((cat (g.take j)).length + xl.length ≤ 140737488355328) := by
            have h5 := congrArg List.length hcat
            rw [List.length_append] at h5
            have h6 := cat_take_le (g := g) (k := j + 1)
            have h7 := HB.out
            show _ ≤ _
            omega
          have A0 : Hid (OwnB wo wr s6 (cat (g.take j))) := A.out
          have HC : Hid (cat (g.take (j + 1)) = cat (g.take j) ++ xl) := hcat
          obtain ⟨q, hq⟩ : ∃ q, xl.length = q := ⟨_, rfl⟩
          have ex : Hid ((Value.slice xa q xc) = Wd.v ⟨xa, xc, xl⟩) := by show _ = _; rw [Wd.v, hq]
          rw [hq] at hxc
          clear A hcat hxg hq d0
          go_wp2_with (at_builtin; refine wpList_appendBits rfl _ _ rfl wo _ s6 (by rfl) (cat (g.take j)) A0.out ⟨xa, xc, xl⟩ (by exact ex.out) NX.out bx.out ?_; intro v' w2 B2)
          have B2' : Hid (OwnB wo w2 v' (cat (g.take (j + 1)))) := by rw [HC.out]; exact B2
          clear B2
          go_wp2
          go_roundg (k - (j + 1))
          case measure => omega
          case rel => exact ⟨j + 1, _, by omega, by omega, by go_num, rfl, B2'.out⟩
        · have A0 : Hid (OwnB wo wr s6 (cat g)) := by
            have h5 := A.out
            rw [List.take_of_length_le (by rw [HN.out]; omega)] at h5
            exact h5
          clear A
          go_wp2
          go_ret
          exact ⟨s6, rfl, A0.out⟩


end Go.Proofs.Ytglajpmifhecgaa
