/-
  For any two numbers: rank.List tells the list that is so many-th of all such lists: RankLists returns true for every two numbers, and changes nothing.
-/
import Derived.Test.YtencpkmojjbjcaaOpen
import Derived.Test.YtencpkmojjbjcaaNum
import Derived.Test.YtencpkmojjbjcaaNxt
import Derived.Test.YtencpkmojjbjcaaLs
namespace Go.Proofs.Ytencpkmojjbjcaa
open Go.ChangeShapes Go.WideShapes Go.ChangeAt Go.RowKit Go.Deep
set_option linter.unusedVariables false

theorem perm_frst {n : Nat} {m : List Int} (h : m.Perm (frst n)) : m.length = n ∧ Each m := by
  have hl : m.length = n := by rw [h.length_eq, frst_length]
  refine ⟨hl, ?_⟩
  unfold Each
  rw [hl]
  exact h

theorem rankLists_good (n i : Nat) (hn : n ≤ 8) (hi : i < fc n) (w : World) : Calls Try.prog 7 #[.int .i64 n, .int .i64 i] w fun e w' => e = .returned (.bool true) ∧ Ext w w' := by
  have c1 := list_good n i hn hi w
  have C2 : Hid (∀ W, Calls Try.prog 19 #[.int .i64 n] W fun e w' => ∃ v, e = .returned v ∧ OwnN W w' v (frst n)) := fun W => first_any n hn W
  have C3 : Hid (∀ (y : Nm) W, Nums W y → y.z.Perm (frst n) → Calls Try.prog 21 #[y.v] W (NextP W y.z)) := fun y W hy hp => next_any y n W hy (perm_frst hp).1 hn (perm_frst hp).2
  have C4 : Hid (∀ (x y : Nm) W, Nums W x → Nums W y → Calls Try.prog 20 #[x.v, y.v] W fun e w' => e = .returned (.bool (x.z == y.z)) ∧ Qt W w') := fun x y W hx hy => ints_any x y W hx hy
  obtain ⟨t1, t2⟩ := li_ok n (frst n) i (frst_length n) (frst_up n) hi
  obtain ⟨T, hT⟩ : ∃ T, li n (frst n) i = T := ⟨_, rfl⟩
  rw [hT] at c1 t1 t2
  have EQ : Hid (∀ m : List Int, m.Perm (frst n) → od m = i → T = m) := fun m hp ho => od_inj T m (t1.trans hp.symm) (by rw [t2, ho])
  have FL : Hid (∀ (m : List Int) k, m.Perm (frst n) → od m = k → k < i → ¬ od m + 1 = fc m.length) := fun m k hp ho hk h => by
    rw [(perm_frst hp).1] at h
    omega
  have Z0 : Hid (od (frst n) = 0) := od_up _ (frst_up n)
  have few : i ≤ 40320 := by have := fc_few' hn; omega
  clear hT t1 t2 hi
  go_enter Try.func7, Try.ntmps7
  go_wp2_with fail
  refine c1.mono ?_
  rintro e w1 ⟨v1, rfl, hO1⟩
  obtain ⟨y1, rfl, hy1, hN1⟩ := hO1.nums
  have E1 : Hid (Ext w w1) := hO1.1
  have N1 : Hid (Nums w1 y1) := hN1
  have Y1 : Hid (y1.z = T) := hy1
  clear c1 hO1 hy1 hN1
  go_wp2_with fail
  refine (C2.out w1).mono ?_
  rintro e w2 ⟨v2, rfl, hO2⟩
  obtain ⟨y2, rfl, hy2, hN2⟩ := hO2.nums
  have E2 : Hid (Ext w1 w2) := hO2.1
  have N2 : Hid (Nums w2 y2) := hN2
  have P2 : Hid (y2.z.Perm (frst n) ∧ od y2.z = 0) := by rw [hy2]; exact ⟨List.Perm.refl _, Z0.out⟩
  clear C2 hO2 hy2 hN2 Z0
  have hi0 : (0 : Int) ≤ (i : Int) := by omega
  go_wp2
  go_loopg [7, 8, 9] i (fun gg s7 s8 s9 wr => ∃ (y : Nm) (k : Nat), k ≤ i ∧ i - k ≤ gg ∧ s7 = y.v ∧ s8 = .bool true ∧ s9 = .int .i64 k ∧ Aside (Ext w1 wr) ∧ Aside (Nums wr y) ∧ Aside (y.z.Perm (frst n) ∧ od y.z = k))
  case atStart => exact ⟨y2, 0, Nat.zero_le _, by omega, rfl, by simp, rfl, E2.out, N2.out, P2.out⟩
  case round =>
    obtain ⟨y, k, hk, hgg, rfl, rfl, rfl, EW, NW, PW⟩ := hrel
    clear E2 N2 P2
    by_cases hlt : k < i
    · have hltz : (k : Int) < (i : Int) := by omega
      have c3 := C3.out y wr NW.out PW.out.1
      have fl : Hid (¬ od y.z + 1 = fc y.z.length) := FL.out y.z k PW.out.1 PW.out.2 hlt
      have NP : Hid (∀ m : List Int, m.Perm y.z → od m = od y.z + 1 → m.Perm (frst n) ∧ od m = k + 1) := fun m h1 h2 => ⟨h1.trans PW.out.1, by rw [h2, PW.out.2]⟩
      clear C3 FL NW PW C4 EQ
      generalize hyv : y.v = yv at *
      generalize y.z = yz at *
      clear hyv
      go_wp2_with fail
      refine c3.mono ?_
      rintro e w6 (⟨v, m, rfl, hO, hp, ho⟩ | ⟨_, _, hf⟩)
      · obtain ⟨y6, rfl, hy6, hN6⟩ := hO.nums
        have E6 : Hid (Ext w1 w6) := EW.out.trans hO.1
        have N6 : Hid (Nums w6 y6) := hN6
        have P6 : Hid (y6.z.Perm (frst n) ∧ od y6.z = k + 1) := by rw [hy6]; exact NP.out m hp ho
        clear c3 hO hy6 hN6 hp ho NP fl
        go_wp2
        go_roundg (i - (k + 1))
        case measure => omega
        case rel => exact ⟨y6, k + 1, by omega, by omega, rfl, rfl, by go_num, E6.out, N6.out, P6.out⟩
      · exact absurd hf fl.out
    · have hk' : k = i := by omega
      subst hk'
      have c4 := C4.out y1 y wr (N1.out.ext EW.out) NW.out
      rw [show (y1.z == y.z) = true by rw [Y1.out, EQ.out y.z PW.out.1 PW.out.2]; exact beq_self_eq_true _] at c4
      have EE : Hid (Ext w wr) := E1.out.trans EW.out
      clear C3 C4 FL NW PW EQ N1 Y1 EW
      generalize y1.v = yv1 at *
      generalize y.v = yv at *
      go_wp2_with fail
      refine c4.mono ?_
      rintro e w5 ⟨rfl, hq⟩
      have E5 : Hid (Ext w w5) := EE.out.trans hq.ext
      clear c4 hq
      go_wp2
      go_ret
      exact ⟨ret_bool (by simp), E5.out⟩

theorem rankLists_low (n : Nat) (i : Int) (hn : n ≤ 8) (hi : i < 0) (w : World) : Calls Try.prog 7 #[.int .i64 n, .int .i64 i] w fun e w' => e = .returned (.bool true) ∧ Ext w w' := by
  have c1 := list_none n i hn (by omega) w
  have c2 := first_any n hn w
  go_enter Try.func7, Try.ntmps7
  go_wp2_with fail
  refine c1.mono ?_
  rintro e w1 ⟨rfl, rfl⟩
  clear c1
  go_wp2_with fail
  refine c2.mono ?_
  rintro e w2 ⟨v2, rfl, hO2⟩
  have E2 : Hid (Ext w1 w2) := hO2.1
  clear c2 hO2
  have hi0 : ¬ (0 : Int) ≤ i := by omega
  go_wp2
  go_loopg [7, 8, 9] 0 (fun gg s7 s8 s9 wr => s8 = .bool false ∧ s9 = .int .i64 0 ∧ wr = w2)
  case atStart => exact ⟨by simp; omega, rfl, rfl⟩
  case round =>
    obtain ⟨rfl, rfl, rfl⟩ := hrel
    have hz : ¬ (0 : Int) < i := by omega
    go_wp2
    go_ret
    exact ⟨rfl, E2.out⟩

theorem rankLists_high (n : Nat) (i : Int) (hn : n ≤ 8) (hi : (fc n : Nat) ≤ i) (w : World) : Calls Try.prog 7 #[.int .i64 n, .int .i64 i] w fun e w' => e = .returned (.bool true) ∧ Ext w w' := by
  have c1 := list_none n i hn (by omega) w
  have c2 := first_any n hn w
  have C3 : Hid (∀ (y : Nm) W, Nums W y → y.z.Perm (frst n) → Calls Try.prog 21 #[y.v] W (NextP W y.z)) := fun y W hy hp => next_any y n W hy (perm_frst hp).1 hn (perm_frst hp).2
  have Z0 : Hid (od (frst n) = 0) := od_up _ (frst_up n)
  have LT : Hid (∀ m : List Int, m.Perm (frst n) → od m < fc n) := fun m hp => by
    have := od_lt m
    rw [(perm_frst hp).1] at this
    exact this
  have few : fc n ≤ 40320 := fc_few' hn
  have pos := fc_pos n
  generalize fc n = F at *
  go_enter Try.func7, Try.ntmps7
  go_wp2_with fail
  refine c1.mono ?_
  rintro e w1 ⟨rfl, rfl⟩
  clear c1
  go_wp2_with fail
  refine c2.mono ?_
  rintro e w2 ⟨v2, rfl, hO2⟩
  obtain ⟨y2, rfl, hy2, hN2⟩ := hO2.nums
  have E2 : Hid (Ext w1 w2) := hO2.1
  have N2 : Hid (Nums w2 y2) := hN2
  have P2 : Hid (y2.z.Perm (frst n) ∧ od y2.z = 0) := by rw [hy2]; exact ⟨List.Perm.refl _, Z0.out⟩
  clear c2 hO2 hy2 hN2 Z0
  have hi0 : (0 : Int) ≤ i := by omega
  go_wp2
  go_loopg [7, 8, 9] (F + 1) (fun gg s7 s8 s9 wr => Aside (Ext w1 wr) ∧ ((∃ (y : Nm) (k : Nat), F + 1 - k ≤ gg ∧ k < F ∧ s7 = y.v ∧ s8 = .bool true ∧ s9 = .int .i64 k ∧ Aside (Nums wr y) ∧ Aside (y.z.Perm (frst n) ∧ od y.z = k)) ∨ (∃ k : Nat, k ≤ F ∧ s7 = .slice none 0 0 ∧ s8 = .bool false ∧ s9 = .int .i64 k)))
  case atStart => exact ⟨E2.out, Or.inl ⟨y2, 0, by omega, pos, rfl, by simp, rfl, N2.out, P2.out⟩⟩
  case round =>
    obtain ⟨EW, ⟨y, k, hgg, hkF, rfl, rfl, rfl, NW, PW⟩ | ⟨k, hkF, rfl, rfl, rfl⟩⟩ := hrel
    · have hltz : (k : Int) < i := by omega
      have c3 := C3.out y wr NW.out PW.out.1
      have NP : Hid (∀ m : List Int, m.Perm y.z → od m = od y.z + 1 → m.Perm (frst n) ∧ od m = k + 1 ∧ k + 1 < F) := fun m h1 h2 => by
        have hp := h1.trans PW.out.1
        have ho : od m = k + 1 := by rw [h2, PW.out.2]
        have := LT.out m hp
        exact ⟨hp, ho, by omega⟩
      clear C3 NW PW E2 N2 P2
      generalize hyv : y.v = yv at *
      generalize y.z = yz at *
      clear hyv
      go_wp2_with fail
      refine c3.mono ?_
      rintro e w6 (⟨v, m, rfl, hO, hp, ho⟩ | ⟨rfl, hE, _⟩)
      · obtain ⟨y6, rfl, hy6, hN6⟩ := hO.nums
        have E6 : Hid (Ext w1 w6) := EW.out.trans hO.1
        have N6 : Hid (Nums w6 y6) := hN6
        obtain ⟨p1, p2, p3⟩ := NP.out m hp ho
        have P6 : Hid (y6.z.Perm (frst n) ∧ od y6.z = k + 1) := by rw [hy6]; exact ⟨p1, p2⟩
        clear c3 hO hy6 hN6 hp ho NP p1 p2
        go_wp2
        go_roundg (F + 1 - (k + 1))
        case measure => omega
        case rel => exact ⟨E6.out, Or.inl ⟨y6, k + 1, by omega, by omega, rfl, rfl, by go_num, N6.out, P6.out⟩⟩
      · have E6 : Hid (Ext w1 w6) := EW.out.trans hE
        clear c3 hE NP
        go_wp2
        go_roundg 0
        case measure => omega
        case rel => exact ⟨E6.out, Or.inr ⟨k + 1, by omega, rfl, rfl, by go_num⟩⟩
    · clear C3 E2 N2 P2
      by_cases hz : (k : Int) < i
      · go_wp2
        go_ret
        exact ⟨rfl, EW.out⟩
      · go_wp2
        go_ret
        exact ⟨rfl, EW.out⟩

theorem rankLists_walk (n i : Int) (w : World) : Calls Try.prog 7 #[.int .i64 n, .int .i64 i] w fun e w' => e = .returned (.bool true) ∧ Ext w w' := by
  by_cases hn : 0 ≤ n ∧ n ≤ 8
  · obtain ⟨N, rfl⟩ : ∃ N : Nat, n = N := ⟨n.toNat, by omega⟩
    rcases Int.lt_or_le i 0 with h0 | h0
    · exact rankLists_low N i (by omega) h0 w
    · rcases Int.lt_or_le i (fc N : Nat) with h1 | h1
      · obtain ⟨I, rfl⟩ : ∃ I : Nat, i = I := ⟨i.toNat, by omega⟩
        exact rankLists_good N I (by omega) (by omega) w
      · exact rankLists_high N i (by omega) h1 w
  · have c1 := list_large n i (if_neg hn) w
    rcases Int.lt_or_le n 0 with h0 | h0
    · go_enter Try.func7, Try.ntmps7
      go_wp2_with fail
      refine c1.mono ?_
      rintro e w1 ⟨rfl, rfl⟩
      clear c1
      go_wp2
      go_ret
      exact ⟨rfl, Ext.refl _⟩
    · have h1 : 8 < n := by omega
      go_enter Try.func7, Try.ntmps7
      go_wp2_with fail
      refine c1.mono ?_
      rintro e w1 ⟨rfl, rfl⟩
      clear c1
      go_wp2
      go_ret
      exact ⟨rfl, Ext.refl _⟩

set_option maxRecDepth 100000 in
theorem rankLists_lifted (os : Os) (started : os.Started) (H : Type) (enc : TypeId × Value → H) :
    ReturnsInHanded {} Try.checked os 7 .any (Rows.rankListsSpec.pre6 enc Try.prog Try.f7 Rows.rankListsRow.domain false) (Rows.rankListsSpec.post enc Try.prog Try.f7 false true false false) := by
  refine returnsInHanded_of_change (C := Try.checked) own started (by kernel_rfl) Try.func7
    (ChangeSpec.witness6 (enc := enc) (C := Try.checked) false ⟨#[], #[.int .i64 0, .int .i64 0], []⟩ 8 (by kernel_rfl) (by kernel_rfl) (by kernel_rfl) (by kernel_rfl)) ?_
  intro W base args ds gs before hval0 hW _ _
  have hval : ∀ (j : Nat) t v, Try.f7.params[j]? = some t → args[j]? = some v → Value.okWide Try.prog W .any base t v := hval0
  have hW' := hW
  obtain ⟨p, q, hA0, hV, rfl, hfz, hnd⟩ := hW
  have hA : DataW.TrodAll enc Try.prog W 0 (fun _ => true) true Try.f7.params.toList args.toList ds p := hA0
  rw [Try.params7] at hA hval
  obtain ⟨v0, vs0, d0, ds0, p0, q0, hargs, rfl, rfl, h0, r0⟩ := trodAll_cons hA
  obtain ⟨v1, vs1, d1, ds1, p1, q1, rfl, rfl, rfl, h1, r1⟩ := trodAll_cons r0
  obtain ⟨rfl, rfl, rfl⟩ := trodAll_nil r1
  obtain rfl : args = #[v0, v1] := by cases args; simp_all
  obtain ⟨rfl, rfl⟩ := trodVars_none hV
  have lt0 : ∀ x ∈ p0, x.block < W.heap.size := by obtain ⟨m, hm⟩ := h0; exact DataW.trod_lt m _ _ _ hm
  obtain ⟨x0, rfl, -, -, wf0⟩ := open_int Try.underlying3 (hval 0 3 v0 rfl rfl) h0
  have lt1 : ∀ x ∈ p1, x.block < W.heap.size := by obtain ⟨m, hm⟩ := h1; exact DataW.trod_lt m _ _ _ hm
  obtain ⟨x1, rfl, -, -, wf1⟩ := open_int Try.underlying2 (hval 1 2 v1 rfl rfl) h1
  clear hA0 hval0
  refine (rankLists_walk x0 x1 W).mono fun e W' ⟨he, bel⟩ => ?_
  subst he
  exact ⟨_, rfl, _, _, _, [], _, [], hW', trodAll_mk1 (shut_bool Try.underlying4 _), (trodAll_cons_mk (Below.trod laidOut (by kernel_rfl) (of_decide_eq_true (by kernel_rfl)) h0 bel lt0) (trodAll_cons_mk (Below.trod laidOut (by kernel_rfl) (of_decide_eq_true (by kernel_rfl)) h1 bel lt1) trodAll_mk0)), rfl, bel.frame _, fun h => by cases h⟩

theorem rankLists_holds : Rows.RankListsSaid :=
  OpenClaim.holds_of_wide 7 Try.f7 rfl rfl rfl rfl rfl rfl rfl ⟨rfl, rfl, rfl, rfl, rfl⟩ rfl rfl rfl rfl rfl (by kernel_rfl) Try.func7 (by kernel_rfl)
    (of_decide_eq_true (by kernel_rfl)) (by unfold Func.isWrapper; rw [if_neg (of_decide_eq_false (by kernel_rfl))]; exact ⟨rfl, rfl⟩)
    (fun os started H enc _ => rankLists_lifted os started H enc)

#print axioms rankLists_holds

end Go.Proofs.Ytencpkmojjbjcaa
