/-
  For any places the program tells the text whose they are: TurnUnfronts returns true for every list of numbers, and changes nothing.
-/
import Derived.Test.YtkccdhidmihekaaUf
import Derived.Test.YtkccdhidmihekaaEq
namespace Go.Proofs.Ytkccdhidmihekaa
open Go.ChangeShapes Go.WideShapes Go.ChangeAt Go.RowKit Go.Deep

theorem any_take_succ {l : List Int} {k : Nat} (h : k < l.length) : (l.take (k + 1)).any outN = ((l.take k).any outN || outN (l.getD k 0)) := by
  rw [List.take_succ_eq_append_getElem h, List.any_append]
  simp [List.getD_eq_getElem?_getD, h]

set_option maxHeartbeats 2000000 in
theorem turnUnfronts_large (x : Nm) (w : World) (hx : Nums w x) (h : 64 < x.z.length) : Calls Try.prog 6 #[x.v] w fun e w' => e = .returned (.bool true) ∧ Ext w w' := by
  have hp := unfront_large x w hx h
  obtain ⟨a, c, l⟩ := x
  obtain ⟨h1, h2, h0, b, o, h3, h4⟩ := hx
  simp only [Nm.v] at *
  unfold maxLen at h2
  obtain ⟨n, hn⟩ : ∃ n, l.length = n := ⟨_, rfl⟩
  rw [hn] at h1 h h3 h4 hp ⊢
  clear hn h0
  have H4 : Hid (∀ i, i < n → w.cell? ⟨b, o + i, none⟩ = some (.int .i64 (l.getD i 0))) := h4
  clear h4
  have hn : (n : Int) > 64 := by omega
  go_enter Try.func6, Try.ntmps6
  go_wp2_with fail
  refine hp.mono ?_
  rintro e w1 ⟨rfl, E1⟩
  have HE : Hid (Ext w w1) := E1
  clear hp E1
  go_wp2
  go_loopg [5, 7, 18] n (fun gg s5 _ s wr => wr = w1 ∧ s5 = .int .i64 1 ∧ ∃ k : Nat, k ≤ n ∧ n - k ≤ gg ∧ s = .int .i64 k)
  case atStart => exact ⟨rfl, rfl, 0, by omega, by omega, rfl⟩
  case round =>
    obtain ⟨rfl, rfl, k, hk, hgg, rfl⟩ := hrel
    by_cases hlt : k < n
    · have hltz : (k : Int) < (n : Int) := by omega
      obtain rfl := h3 (by omega)
      have e1 := HE.out.cell (H4.out k hlt)
      generalize l.getD k 0 = y at *
      go_wp2
      go_roundg (n - (k + 1))
      case measure => omega
      case rel => exact ⟨rfl, rfl, k + 1, by omega, by omega, by go_num⟩
    · go_wp2
      go_ret
      exact ⟨rfl, HE.out⟩

set_option maxHeartbeats 2000000 in
theorem turnUnfronts_range (x : Nm) (w : World) (hx : Nums w x) (h : x.z.length ≤ 64) (hr : x.z.any outN = true) : Calls Try.prog 6 #[x.v] w fun e w' => e = .returned (.bool true) ∧ Ext w w' := by
  have hp := unfront_range x w hx h hr
  obtain ⟨a, c, l⟩ := x
  obtain ⟨h1, h2, h0, b, o, h3, h4⟩ := hx
  simp only [Nm.v] at *
  unfold maxLen at h2
  obtain ⟨n, hn⟩ : ∃ n, l.length = n := ⟨_, rfl⟩
  have HN : Hid (l.length = n) := hn
  have HR : Hid (l.any outN = true) := hr
  rw [hn] at h1 h h3 h4 hp ⊢
  clear hn h0 hr
  have H4 : Hid (∀ i, i < n → w.cell? ⟨b, o + i, none⟩ = some (.int .i64 (l.getD i 0))) := h4
  clear h4
  have hn : ¬ ((n : Int) > 64) := by omega
  go_enter Try.func6, Try.ntmps6
  go_wp2_with fail
  refine hp.mono ?_
  rintro e w1 ⟨rfl, E1⟩
  have HE : Hid (Ext w w1) := E1
  clear hp E1
  go_wp2
  go_loopg [5, 7, 18] n (fun gg s5 _ s wr => wr = w1 ∧ ∃ (k : Nat) (ev : Int), k ≤ n ∧ n - k ≤ gg ∧ s = .int .i64 k ∧ s5 = .int .i64 ev ∧ Aside ((ev = 0 ∧ (l.take k).any outN = false) ∨ (ev = 4 ∧ (l.take k).any outN = true)))
  case atStart => exact ⟨rfl, 0, 0, by omega, by omega, rfl, rfl, .inl ⟨rfl, by simp⟩⟩
  case round =>
    obtain ⟨rfl, k, ev, hk, hgg, rfl, rfl, A⟩ := hrel
    by_cases hlt : k < n
    · have hltz : (k : Int) < (n : Int) := by omega
      obtain rfl := h3 (by omega)
      have e1 := HE.out.cell (H4.out k hlt)
      have hs : Hid ((l.take (k + 1)).any outN = ((l.take k).any outN || outN (l.getD k 0))) := any_take_succ (by rw [HN.out]; exact hlt)
      generalize l.getD k 0 = y at *
      rcases A.out with ⟨rfl, hA⟩ | ⟨rfl, hA⟩
      · have hs2 : Hid ((l.take (k + 1)).any outN = outN y) := by show _ = _; rw [hs.out, hA, Bool.false_or]
        clear hs hA A
        by_cases hy0 : y < 0
        · have N1 : Hid ((l.take (k + 1)).any outN = true) := (show _ = _ by rw [hs2.out]; simp [outN, hy0])
          clear hs2
          go_wp2
          go_roundg (n - (k + 1))
          case measure => omega
          case rel => exact ⟨rfl, k + 1, 4, by omega, by omega, by go_num, rfl, .inr ⟨rfl, N1.out⟩⟩
        · by_cases hy1 : y > 255
          · have N1 : Hid ((l.take (k + 1)).any outN = true) := (show _ = _ by rw [hs2.out]; simp [outN]; omega)
            clear hs2
            go_wp2
            go_roundg (n - (k + 1))
            case measure => omega
            case rel => exact ⟨rfl, k + 1, 4, by omega, by omega, by go_num, rfl, .inr ⟨rfl, N1.out⟩⟩
          · have N1 : Hid ((l.take (k + 1)).any outN = false) := (show _ = _ by rw [hs2.out]; simp [outN]; omega)
            clear hs2
            go_wp2
            go_roundg (n - (k + 1))
            case measure => omega
            case rel => exact ⟨rfl, k + 1, 0, by omega, by omega, by go_num, rfl, .inl ⟨rfl, N1.out⟩⟩
      · have N1 : Hid ((l.take (k + 1)).any outN = true) := (show _ = _ by rw [hs.out, hA, Bool.true_or])
        clear hs hA A
        go_wp2
        go_roundg (n - (k + 1))
        case measure => omega
        case rel => exact ⟨rfl, k + 1, 4, by omega, by omega, by go_num, rfl, .inr ⟨rfl, N1.out⟩⟩
    · have hev : ev = 4 := by
        have e : l.take k = l := List.take_of_length_le (by rw [HN.out]; omega)
        have h5 := A.out
        rw [e, HR.out] at h5
        simpa using h5
      subst hev
      clear A
      go_wp2
      go_ret
      exact ⟨rfl, HE.out⟩

set_option maxHeartbeats 2000000 in
theorem turnUnfronts_good (x : Nm) (w : World) (hx : Nums w x) (h : x.z.length ≤ 64) (hr : x.z.any outN = false) : Calls Try.prog 6 #[x.v] w fun e w' => e = .returned (.bool true) ∧ Ext w w' := by
  have hp := unfront_good x w hx h hr
  have HU : Hid (∀ W, Ext w W → Calls Try.prog 18 #[x.v] W fun e w' => ∃ v, e = .returned v ∧ OwnB W w' v (rr x.z x.z.length).reverse) := fun W hW => unfronts_any x W (hx.ext hW) h hr
  have HS : Hid (∀ (y z : Wd) W, Bits W y → Bits W z → y.l = z.l → Calls Try.prog 11 #[y.v, z.v] W fun e w' => e = .returned (.bool true) ∧ Qt W w') := fun y z W hy hz he => by
    have := bytes_any y z W hy hz
    rw [he, beq_self_eq_true] at this
    exact this
  obtain ⟨a, c, l⟩ := x
  obtain ⟨h1, h2, h0, b, o, h3, h4⟩ := hx
  simp only [Nm.v] at *
  unfold maxLen at h2
  obtain ⟨n, hn⟩ : ∃ n, l.length = n := ⟨_, rfl⟩
  have HN : Hid (l.length = n) := hn
  have HR : Hid (∀ i, i < n → 0 ≤ l.getD i 0 ∧ l.getD i 0 < 256) := by
    intro i hi
    have hi' : i < l.length := by omega
    have h5 := List.any_eq_false.1 hr _ (List.getElem_mem hi')
    have e : l.getD i 0 = l[i] := by simp [List.getD_eq_getElem?_getD, hi']
    rw [e]
    simp [outN] at h5
    omega
  rw [hn] at h1 h h3 h4 hp HU ⊢
  clear hn h0 hr
  generalize (rr l n).reverse = R at *
  have H4 : Hid (∀ i, i < n → w.cell? ⟨b, o + i, none⟩ = some (.int .i64 (l.getD i 0))) := h4
  clear h4
  have hn : ¬ ((n : Int) > 64) := by omega
  go_enter Try.func6, Try.ntmps6
  go_wp2_with fail
  refine hp.mono ?_
  rintro e w1 ⟨y, rfl, hyl, hy, E1⟩
  have HE : Hid (Ext w w1) := E1
  have HY : Hid (Bits w1 y ∧ y.l = R) := ⟨hy, hyl⟩
  clear hp E1 hy hyl
  go_wp2
  go_loopg [5, 7, 18] n (fun gg s5 _ s wr => wr = w1 ∧ s5 = .int .i64 0 ∧ ∃ k : Nat, k ≤ n ∧ n - k ≤ gg ∧ s = .int .i64 k)
  case atStart => exact ⟨rfl, rfl, 0, by omega, by omega, rfl⟩
  case round =>
    obtain ⟨rfl, rfl, k, hk, hgg, rfl⟩ := hrel
    by_cases hlt : k < n
    · have hltz : (k : Int) < (n : Int) := by omega
      obtain rfl := h3 (by omega)
      have e1 := HE.out.cell (H4.out k hlt)
      obtain ⟨hy0, hy1⟩ := HR.out k hlt
      generalize l.getD k 0 = y at *
      have hy2 : ¬ (y < 0) := by omega
      have hy3 : ¬ (y > 255) := by omega
      go_wp2
      go_roundg (n - (k + 1))
      case measure => omega
      case rel => exact ⟨rfl, rfl, k + 1, by omega, by omega, by go_num⟩
    · have hr := HU.out wr HE.out
      clear HU
      simp only [Wd.v]
      go_wp2_with fail
      refine hr.mono ?_
      rintro e w2 ⟨v2, rfl, hv2⟩
      obtain ⟨z, rfl, hzg, hz⟩ := hv2.bits
      have hs := HS.out y z w2 (HY.out.1.ext hv2.1) hz (by rw [HY.out.2, hzg])
      have E2 : Hid (Ext w w2) := HE.out.trans hv2.1
      clear hr hv2 hzg hz HS HY
      go_wp2_with fail
      refine hs.mono ?_
      rintro e w3 ⟨rfl, hw3⟩
      have E3 : Hid (Ext w w3) := E2.out.trans hw3.ext
      clear hs hw3 E2
      go_wp2
      go_ret
      exact ⟨rfl, E3.out⟩

theorem turnUnfronts_walk (x : Nm) (w : World) (hx : Nums w x) : Calls Try.prog 6 #[x.v] w fun e w' => e = .returned (.bool true) ∧ Ext w w' := by
  by_cases h : 64 < x.z.length
  · exact turnUnfronts_large x w hx h
  · cases hr : x.z.any outN
    · exact turnUnfronts_good x w hx (by omega) hr
    · exact turnUnfronts_range x w hx (by omega) hr

set_option maxRecDepth 100000 in
theorem turnUnfronts_lifted (os : Os) (started : os.Started) (H : Type) (enc : TypeId × Value → H) :
    ReturnsInHanded {} Try.checked os 6 .any (Rows.turnUnfrontsSpec.pre6 enc Try.prog Try.f6 Rows.turnUnfrontsRow.domain false) (Rows.turnUnfrontsSpec.post enc Try.prog Try.f6 false true false false) := by
  refine returnsInHanded_of_change (C := Try.checked) own started (by kernel_rfl) Try.func6
    (ChangeSpec.witness6 (enc := enc) (C := Try.checked) false ⟨#[], #[.slice none 0 0], []⟩ 8 (by kernel_rfl) (by kernel_rfl) (by kernel_rfl) (by kernel_rfl)) ?_
  intro W base args ds gs before hval0 hW _ _
  have hval : ∀ (j : Nat) t v, Try.f6.params[j]? = some t → args[j]? = some v → Value.okWide Try.prog W .any base t v := hval0
  have hW' := hW
  obtain ⟨p, q, hA0, hV, rfl, hfz, hnd⟩ := hW
  have hA : DataW.TrodAll enc Try.prog W 0 (fun _ => true) true Try.f6.params.toList args.toList ds p := hA0
  rw [Try.params6] at hA hval
  obtain ⟨v0, vs0, d0, ds0, p0, q0, hargs, rfl, rfl, h0, r0⟩ := trodAll_cons hA
  obtain ⟨rfl, rfl, rfl⟩ := trodAll_nil r0
  obtain rfl : args = #[v0] := by cases args; simp_all
  obtain ⟨rfl, rfl⟩ := trodVars_none hV
  have lt0 : ∀ x ∈ p0, x.block < W.heap.size := by obtain ⟨m, hm⟩ := h0; exact DataW.trod_lt m _ _ _ hm
  obtain ⟨x0, rfl, w0⟩ := open_syms (hval 0 35 v0 rfl rfl) h0
  clear hA0 hval0
  refine (turnUnfronts_walk x0 W w0).mono fun e W' ⟨he, bel⟩ => ?_
  subst he
  exact ⟨_, rfl, _, _, _, [], _, [], hW', trodAll_mk1 (shut_bool Try.underlying4 _), (trodAll_cons_mk (Below.trod laidOut (by kernel_rfl) (of_decide_eq_true (by kernel_rfl)) h0 bel lt0) trodAll_mk0), rfl, bel.frame _, fun h => by cases h⟩

theorem turnUnfronts_holds : Rows.TurnUnfrontsSaid :=
  OpenClaim.holds_of_wide 6 Try.f6 rfl rfl rfl rfl rfl rfl rfl ⟨rfl, rfl, rfl, rfl, rfl⟩ rfl rfl rfl rfl rfl (by kernel_rfl) Try.func6 (by kernel_rfl)
    (of_decide_eq_true (by kernel_rfl)) (by unfold Func.isWrapper; rw [if_neg (of_decide_eq_false (by kernel_rfl))]; exact ⟨rfl, rfl⟩)
    (fun os started H enc _ => turnUnfronts_lifted os started H enc)

#print axioms turnUnfronts_holds

end Go.Proofs.Ytkccdhidmihekaa
