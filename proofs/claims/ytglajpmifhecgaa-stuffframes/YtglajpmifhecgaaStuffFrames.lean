/-
  Of any texts the program tells what is made of each between flags, and of more than eight, or of one of more than 64 bits, that they are too many: StuffFrames returns true for every list of lists of bits, and changes nothing.
-/
import Derived.Test.YtglajpmifhecgaaOpen
import Derived.Test.YtglajpmifhecgaaHl
import Derived.ProofKit
namespace Go.Proofs.Ytglajpmifhecgaa
open Go.ChangeShapes Go.WideShapes Go.ChangeAt Go.RowKit Go.Deep
set_option linter.unusedVariables false

set_option maxHeartbeats 1000000 in
theorem stuffFrames_large (a : Option Addr) (c : Nat) (g : List Wd) (w : World) (hg : Wds w a c g) (hl : large (g.map (·.l)) = true) : Calls Try.prog 5 #[.slice a g.length c] w fun e w' => e = .returned (.bool true) ∧ Ext w w' := by
  have c1 := Frames_large a c g w hg hl
  obtain ⟨h1, h2, h3, b, o, h4, h5⟩ := hg
  obtain ⟨K, hK⟩ : ∃ K : Nat → Nat, ∀ i, K i = ((g.map (·.l)).getD i []).length := ⟨_, fun _ => rfl⟩
  have kl : ∀ i (h : i < g.length), K i = g[i].l.length := fun i h => by rw [hK]; simp [List.getD_eq_getElem?_getD, h]
  have HC : Hid (∀ i, i < g.length → ∃ xa xc, w.cell? ⟨b, o + i, none⟩ = some (.slice xa (K i) xc) ∧ K i ≤ 9223372036854775807) := fun i hi => by
    refine ⟨g[i].a, g[i].c, ?_, ?_⟩
    · rw [kl i hi]; exact h5 i hi
    · have hb := h3 _ (List.getElem_mem hi)
      have hb1 := hb.1
      have hb2 := hb.2.1
      unfold maxLen at hb2
      rw [kl i hi]; omega
  have HE : Hid (g.length ≤ 8 → (∀ i, i < g.length → K i ≤ 64) → False) := fun h8 h64 => by
    have : large (g.map (·.l)) = false := large_no.2 ⟨by simpa using h8, fun t ht => by
      obtain ⟨x, hx, rfl⟩ := List.mem_map.1 ht
      obtain ⟨i, hi, rfl⟩ := List.mem_iff_getElem.1 hx
      rw [← kl i hi]; exact h64 i hi⟩
    rw [this] at hl; cases hl
  clear h3 h5 hK kl hl
  generalize g.length = n at *
  unfold maxLen at h2
  go_enter Try.func5, Try.ntmps5
  go_wp2_with fail
  refine c1.mono ?_
  rintro e w1 ⟨rfl, E⟩
  have E1 : Hid (Ext w w1) := E
  clear c1 E
  by_cases h8 : n ≤ 8
  · have h8z : ¬ (n : Int) > 8 := by omega
    go_wp2
    go_loopg [5, 7, 18] n (fun gg s5 _ s18 wr => wr = w1 ∧ ∃ (k : Nat) (z : Int), k ≤ n ∧ n - k ≤ gg ∧ s5 = .int .i64 z ∧ s18 = .int .i64 k ∧ (z = 1 ∨ (z = 0 ∧ Hid (∀ j, j < k → K j ≤ 64))))
    case atStart => exact ⟨rfl, 0, _, by omega, by omega, rfl, rfl, Or.inr ⟨rfl, fun j hj => absurd hj (Nat.not_lt_zero _)⟩⟩
    case round =>
      obtain ⟨rfl, k, z, hk, hgg, rfl, rfl, HZ⟩ := hrel
      by_cases hlt : k < n
      · have hltz : (k : Int) < (n : Int) := by omega
        obtain rfl := h4 (by omega)
        obtain ⟨xa, xc, e1, e2⟩ := HC.out k hlt
        have e1 := E1.out.cell e1
        by_cases h64 : 64 < K k
        · have hz : (K k : Int) > 64 := by omega
          clear HC HE HZ
          generalize K k = m at *
          go_wp2
          go_roundg (n - (k + 1))
          case measure => omega
          case rel => exact ⟨rfl, k + 1, 1, by omega, by omega, rfl, by go_num, Or.inl rfl⟩
        · have hz : ¬ (K k : Int) > 64 := by omega
          have HZ2 : Hid (z = 1 ∨ (z = 0 ∧ Hid (∀ j, j < k + 1 → K j ≤ 64))) := by
            rcases HZ with h | ⟨h, hs⟩
            · exact Or.inl h
            · refine Or.inr ⟨h, fun j hj => ?_⟩
              rcases Nat.lt_succ_iff_lt_or_eq.1 hj with h' | rfl
              · exact hs.out j h'
              · omega
          clear HC HE HZ
          obtain ⟨m, hm⟩ : ∃ m, K k = m := ⟨_, rfl⟩
          rw [hm] at e1 e2 hz h64
          clear hm
          go_wp2
          go_roundg (n - (k + 1))
          case measure => omega
          case rel => exact ⟨rfl, k + 1, z, by omega, by omega, rfl, by go_num, HZ2.out⟩
      · obtain rfl : k = n := by omega
        rcases HZ with rfl | ⟨rfl, hs⟩
        · clear HC HE
          go_wp2
          go_ret
          exact ⟨rfl, E1.out⟩
        · exact (HE.out h8 hs.out).elim
  · have h8z : (n : Int) > 8 := by omega
    clear HE
    go_wp2
    go_loopg [5, 7, 18] n (fun gg s5 _ s18 wr => wr = w1 ∧ s5 = .int .i64 1 ∧ ∃ (k : Nat), k ≤ n ∧ n - k ≤ gg ∧ s18 = .int .i64 k)
    case atStart => exact ⟨rfl, rfl, 0, by omega, by omega, rfl⟩
    case round =>
      obtain ⟨rfl, rfl, k, hk, hgg, rfl⟩ := hrel
      by_cases hlt : k < n
      · have hltz : (k : Int) < (n : Int) := by omega
        obtain rfl := h4 (by omega)
        obtain ⟨xa, xc, e1, e2⟩ := HC.out k hlt
        have e1 := E1.out.cell e1
        clear HC
        generalize K k = m at *
        by_cases h64 : 64 < m
        · have hz : (m : Int) > 64 := by omega
          go_wp2
          go_roundg (n - (k + 1))
          case measure => omega
          case rel => exact ⟨rfl, rfl, k + 1, by omega, by omega, by go_num⟩
        · have hz : ¬ (m : Int) > 64 := by omega
          go_wp2
          go_roundg (n - (k + 1))
          case measure => omega
          case rel => exact ⟨rfl, rfl, k + 1, by omega, by omega, by go_num⟩
      · obtain rfl : k = n := by omega
        clear HC
        go_wp2
        go_ret
        exact ⟨rfl, E1.out⟩

set_option maxHeartbeats 1000000 in
theorem stuffFrames_good (a : Option Addr) (c : Nat) (g : List Wd) (w : World) (hg : Wds w a c g) (hl : large (g.map (·.l)) = false) : Calls Try.prog 5 #[.slice a g.length c] w fun e w' => e = .returned (.bool true) ∧ Ext w w' := by
  have c1 := Frames_good a c g w hg hl
  have c2 : Hid (∀ W, Ext w W → Calls Try.prog 15 #[.slice a g.length c] W fun e w' => ∃ v, e = .returned v ∧ OwnB W w' v (frm (g.map (·.l)))) := fun W E => refFramed_any a c g W (hg.ext E) hl
  obtain ⟨h8, h64⟩ := large_no.1 hl
  rw [List.length_map] at h8
  obtain ⟨h1, h2, h3, b, o, h4, h5⟩ := hg
  have HC : Hid (∀ i, i < g.length → ∃ xa xc, ∃ m : Nat, w.cell? ⟨b, o + i, none⟩ = some (.slice xa m xc) ∧ m ≤ 64) := fun i hi => by
    refine ⟨g[i].a, g[i].c, g[i].l.length, h5 i hi, h64 _ (List.mem_map.2 ⟨g[i], List.getElem_mem hi, rfl⟩)⟩
  clear h3 h5 hl h64
  generalize frm (g.map (·.l)) = T at *
  generalize g.length = n at *
  unfold maxLen at h2
  have h8z : ¬ (n : Int) > 8 := by omega
  go_enter Try.func5, Try.ntmps5
  go_wp2_with fail
  refine c1.mono ?_
  rintro e w1 ⟨v, rfl, O⟩
  obtain ⟨y, rfl, hy, hb, E⟩ := O.word
  have E1 : Hid (Ext w w1) := E
  have Y : Hid (y.l = T ∧ Bits w1 y) := ⟨hy, hb⟩
  clear c1 hy hb E O
  go_wp2
  go_loopg [5, 7, 18] n (fun gg s5 _ s18 wr => wr = w1 ∧ s5 = .int .i64 0 ∧ ∃ (k : Nat), k ≤ n ∧ n - k ≤ gg ∧ s18 = .int .i64 k)
  case atStart => exact ⟨rfl, rfl, 0, by omega, by omega, rfl⟩
  case round =>
    obtain ⟨rfl, rfl, k, hk, hgg, rfl⟩ := hrel
    by_cases hlt : k < n
    · have hltz : (k : Int) < (n : Int) := by omega
      obtain rfl := h4 (by omega)
      obtain ⟨xa, xc, m, e1, e2⟩ := HC.out k hlt
      have e1 := E1.out.cell e1
      have hz : ¬ (m : Int) > 64 := by omega
      clear HC c2 Y
      go_wp2
      go_roundg (n - (k + 1))
      case measure => omega
      case rel => exact ⟨rfl, rfl, k + 1, by omega, by omega, by go_num⟩
    · obtain rfl : k = n := by omega
      clear HC
      go_wp2_with fail
      refine (c2.out _ E1.out).mono ?_
      rintro e w2 ⟨v, rfl, O⟩
      obtain ⟨z, rfl, hz, hb, E⟩ := O.word
      have c3 := same_any y z w2 (Y.out.2.ext E) hb (by rw [hz, Y.out.1])
      have E2 : Hid (Ext w w2) := E1.out.trans E
      clear c2 hz hb E O Y E1
      go_wp2_with fail
      refine c3.mono ?_
      rintro e w3 ⟨rfl, E⟩
      have E3 : Hid (Ext w w3) := E2.out.trans E
      clear c3 E E2
      go_wp2
      go_ret
      exact ⟨rfl, E3.out⟩

theorem stuffFrames_walk (a : Option Addr) (c : Nat) (g : List Wd) (w : World) (hg : Wds w a c g) : Calls Try.prog 5 #[.slice a g.length c] w fun e w' => e = .returned (.bool true) ∧ Ext w w' := by
  cases hl : large (g.map (·.l)) with
  | true => exact stuffFrames_large a c g w hg hl
  | false => exact stuffFrames_good a c g w hg hl

set_option maxRecDepth 100000 in
theorem stuffFrames_lifted (os : Os) (started : os.Started) (H : Type) (enc : TypeId × Value → H) :
    ReturnsInHanded {} Try.checked os 5 .any (Rows.stuffFramesSpec.pre6 enc Try.prog Try.f5 Rows.stuffFramesRow.domain false) (Rows.stuffFramesSpec.post enc Try.prog Try.f5 false true false false) := by
  refine returnsInHanded_of_change (C := Try.checked) own started (by kernel_rfl) Try.func5
    (ChangeSpec.witness6 (enc := enc) (C := Try.checked) false ⟨#[], #[.slice none 0 0], []⟩ 8 (by kernel_rfl) (by kernel_rfl) (by kernel_rfl) (by kernel_rfl)) ?_
  intro W base args ds gs before hval0 hW _ _
  have hval : ∀ (j : Nat) t v, Try.f5.params[j]? = some t → args[j]? = some v → Value.okWide Try.prog W .any base t v := hval0
  have hW' := hW
  obtain ⟨p, q, hA0, hV, rfl, hfz, hnd⟩ := hW
  have hA : DataW.TrodAll enc Try.prog W 0 (fun _ => true) true Try.f5.params.toList args.toList ds p := hA0
  rw [Try.params5] at hA hval
  obtain ⟨v0, vs0, d0, ds0, p0, q0, hargs, rfl, rfl, h0, r0⟩ := trodAll_cons hA
  obtain ⟨rfl, rfl, rfl⟩ := trodAll_nil r0
  obtain rfl : args = #[v0] := by cases args; simp_all
  obtain ⟨rfl, rfl⟩ := trodVars_none hV
  have lt0 : ∀ x ∈ p0, x.block < W.heap.size := by obtain ⟨m, hm⟩ := h0; exact DataW.trod_lt m _ _ _ hm
  obtain ⟨a0, c0, g0, rfl, w0⟩ := open_code (hval 0 31 v0 rfl rfl) h0
  clear hA0 hval0
  refine (stuffFrames_walk a0 c0 g0 W w0).mono fun e W' ⟨he, bel⟩ => ?_
  subst he
  exact ⟨_, rfl, _, _, _, [], _, [], hW', trodAll_mk1 (shut_bool Try.underlying4 _), (trodAll_cons_mk (Below.trod laidOut (by kernel_rfl) (of_decide_eq_true (by kernel_rfl)) h0 bel lt0) trodAll_mk0), rfl, bel.frame _, fun h => by cases h⟩

theorem stuffFrames_holds : Rows.StuffFramesSaid :=
  OpenClaim.holds_of_wide 5 Try.f5 rfl rfl rfl rfl rfl rfl rfl ⟨rfl, rfl, rfl, rfl, rfl⟩ rfl rfl rfl rfl rfl (by kernel_rfl) Try.func5 (by kernel_rfl)
    (of_decide_eq_true (by kernel_rfl)) (by unfold Func.isWrapper; rw [if_neg (of_decide_eq_false (by kernel_rfl))]; exact ⟨rfl, rfl⟩)
    (fun os started H enc _ => stuffFrames_lifted os started H enc)

#print axioms stuffFrames_holds

end Go.Proofs.Ytglajpmifhecgaa
