/-
  For any weights a code whose words rise costs no less than the best of all, and no more than that and all weights together: AlphaBetween returns true for every list of weights, and changes nothing.
-/
import Derived.Test.YtakggfogoobdnaaOpn
import Derived.Test.YtakggfogoobdnaaAco
import Derived.Test.YtakggfogoobdnaaAlp3
import Derived.Test.YtakggfogoobdnaaJn2
namespace Go.Proofs.Ytakggfogoobdnaa
open Go.ChangeShapes Go.WideShapes Go.ChangeAt Go.RowKit Go.Deep
set_option linter.unusedVariables false

set_option maxHeartbeats 4000000 in
theorem alphaBetween_walk (x : Nm) (w : World) (hx : Nums w x) : Calls Try.prog 7 #[x.v] w fun e w' => e = .returned (.bool true) ∧ Ext w w' := by
  have HWD : Hid (∀ W, Ext w W → Calls Try.prog 18 #[x.v] W fun e w' => e = .returned (.bool (werl x.z == 0)) ∧ w' = W) := fun W e => weighed_any x W (hx.ext e)
  by_cases hok : werl x.z = 0
  · obtain ⟨v, hxv, h8, hw⟩ := werl_lz hok
    have HC := acostG_any x v w hx hxv hok
    have HH : Hid (∀ W, Ext w W → Calls Try.prog 22 #[x.v] W fun e w' => ∃ l : List Nat, e = .returned (.tuple #[.int .i64 (dot v l : Nat), .int .i64 0]) ∧ Ext W w' ∧ Best (wof (lz v)) v.length l) := fun W e =>
      (costG_any x W (hx.ext e) hok).mono (by
        rintro e w' ⟨l, rfl, h1, h2⟩
        rw [hxv, lz_length] at h2 ⊢
        exact ⟨l, by rw [(best_list h8 h2).2.2.2.1], h1, h2⟩)
    rw [hok] at HWD
    obtain ⟨a, c, z⟩ := x
    simp only [Nm.v] at *
    subst hxv
    obtain ⟨q1, q2, _, qb, qo, q4, q5⟩ := hx
    simp only at q1 q2 q4 q5
    rw [lz_length] at q1 q4 q5 HC HH HWD ⊢
    have HV8 : Hid (v.length ≤ 8) := h8
    have HW : Hid (∀ u ∈ v, u ≤ 1048576) := hw
    obtain ⟨n, hn⟩ : ∃ n, v.length = n := ⟨_, rfl⟩
    have HN : Hid (v.length = n) := hn
    rw [hn] at q1 q4 q5 HC HWD h8 ⊢
    have Q5 : Hid (∀ i, i < n → w.cell? ⟨qb, qo + i, none⟩ = some (.int .i64 ((lz v).getD i 0))) := q5
    have HH2 : Hid (∀ W, Ext w W → Calls Try.prog 22 #[.slice a n c] W fun e w' => ∃ l : List Nat, e = .returned (.tuple #[.int .i64 (dot v l : Nat), .int .i64 0]) ∧ Ext W w' ∧ Best (wof (lz v)) v.length l) := by rw [← hn]; exact HH
    unfold maxLen at q2
    clear hok hw q5 hn HH
    go_enter Try.func7, Try.ntmps7
    go_wp2_with fail
    refine HC.mono ?_
    rintro e w1 ⟨l1, rfl, hO1, hE1⟩
    have HO1 : Hid (Opt v l1) := hO1
    have E1 : Hid (Ext w w1) := hE1
    clear hO1 hE1 HC
    go_wp2_with fail
    refine (HH2.out w1 E1.out).mono ?_
    rintro e w2 ⟨l2, rfl, hE2, hB2⟩
    have HB2 : Hid (Best (wof (lz v)) v.length l2) := hB2
    have E2 : Hid (Ext w w2) := E1.out.trans hE2
    clear hB2 hE2 HH2
    have bA : dot v l1 ≤ 67108864 := by
      have := dot_le v l1 1048576 HW.out (fun d hd => by have := HO1.out.1.le d hd; have := HN.out; omega)
      have h2 : v.length * (1048576 * 8) ≤ 8 * (1048576 * 8) := Nat.mul_le_mul_right _ HV8.out
      omega
    have bH : dot v l2 ≤ 67108864 := Nat.le_trans (between HV8.out HO1.out HB2.out).1 bA
    have BT : Hid (dot v l2 ≤ dot v l1 ∧ dot v l1 ≤ dot v l2 + v.sum) := between HV8.out HO1.out HB2.out
    obtain ⟨A, hA⟩ : ∃ A, dot v l1 = A := ⟨_, rfl⟩
    obtain ⟨H, hH⟩ : ∃ H, dot v l2 = H := ⟨_, rfl⟩
    rw [hA] at bA BT ⊢
    rw [hH] at bH BT ⊢
    clear hA hH HO1 HB2
    go_wp2_with fail
    refine (HWD.out w2 E2.out).mono ?_
    rintro e w3 ⟨rfl, rfl⟩
    clear HWD
    have BS : Hid (∀ k, (v.take k).sum ≤ 8388608) := by
      intro k
      have := sum_le (v.take k) 1048576 (fun u hu => HW.out u (List.mem_of_mem_take hu))
      have h2 : (v.take k).length * 1048576 ≤ 8 * 1048576 := Nat.mul_le_mul_right _ (by have := HV8.out; simp; omega)
      omega
    go_wp2
    go_loopg [7, 9, 31] n (fun gg s7 _ s31 wr => wr = w3 ∧ ∃ k S : Nat, k ≤ n ∧ n - k ≤ gg ∧ s31 = .int .i64 k ∧ s7 = .int .i64 S ∧ Aside (S = (v.take k).sum))
    case atStart => exact ⟨rfl, 0, 0, by omega, by omega, rfl, rfl, by show _ = _; simp⟩
    case round =>
      obtain ⟨rfl, k, S, hk, hgg, rfl, rfl, A'⟩ := hrel
      have hS := BS.out k
      rw [← A'.out] at hS
      by_cases hlt : k < n
      · have hltz : (k : Int) < (n : Int) := by omega
        obtain rfl := q4 (by omega)
        have e1 := E2.out.cell (Q5.out k hlt)
        rw [lz_z] at e1
        have hkv : k < v.length := by rw [HN.out]; exact hlt
        have hu8 : v.getD k 0 ≤ 1048576 := by
          rw [List.getD_eq_getElem?_getD, List.getElem?_eq_getElem hkv]
          exact HW.out _ (List.getElem_mem hkv)
        have hs : S + v.getD k 0 = (v.take (k + 1)).sum := by rw [take_sum v k hkv, A'.out]
        generalize v.getD k 0 = u at *
        have HS : Hid (S + u = (v.take (k + 1)).sum) := hs
        clear hs A' hkv
        go_wp2
        go_roundg (n - (k + 1))
        case measure => omega
        case rel => exact ⟨rfl, k + 1, S + u, by omega, by omega, by go_num, by go_num, HS.out⟩
      · have hkn : k = n := by omega
        have hvs : S = v.sum := by rw [A'.out, List.take_of_length_le (by rw [HN.out]; omega)]
        obtain ⟨b1, b2⟩ := BT.out
        rw [← hvs] at b2
        clear A' hvs
        have z1 : (H : Int) ≤ (A : Int) := by omega
        have z2 : (A : Int) ≤ (H : Int) + (S : Int) := by omega
        have hltz : ¬ (k : Int) < (n : Int) := by omega
        go_wp2
        go_ret
        exact ⟨ret_bool (by simp), E2.out⟩
  · have HC := acostB_any x w hx hok
    have HH : Hid (∀ W, Ext w W → Calls Try.prog 22 #[x.v] W fun e w' => e = .returned (.tuple #[.int .i64 0, .int .i64 (werl x.z)]) ∧ Ext W w') := fun W e => costB_any x W (hx.ext e) hok
    have hr : (werl x.z == 0) = false := by simpa using hok
    have hne : (werl x.z != 0) = true := by simp [bne, hr]
    clear hx hok
    obtain ⟨a, c, z⟩ := x
    simp only [Nm.v] at *
    generalize werl z = r at *
    generalize z.length = n at *
    go_enter Try.func7, Try.ntmps7
    go_wp2_with fail
    refine HC.mono ?_
    rintro e w1 ⟨rfl, hb⟩
    go_wp2_with fail
    refine (HH.out w1 hb).mono ?_
    rintro e w2 ⟨rfl, hb2⟩
    go_wp2_with fail
    refine (HWD.out w2 (hb.trans hb2)).mono ?_
    rintro e w3 ⟨rfl, rfl⟩
    go_wp2
    go_ret
    exact ⟨ret_bool (by simp), hb.trans hb2⟩

set_option maxRecDepth 100000 in
theorem alphaBetween_lifted (os : Os) (started : os.Started) (H : Type) (enc : TypeId × Value → H) :
    ReturnsInHanded {} Try.checked os 7 .any (Rows.alphaBetweenSpec.pre6 enc Try.prog Try.f7 Rows.alphaBetweenRow.domain false) (Rows.alphaBetweenSpec.post enc Try.prog Try.f7 false true false false) := by
  refine returnsInHanded_of_change (C := Try.checked) own started (by kernel_rfl) Try.func7
    (ChangeSpec.witness6 (enc := enc) (C := Try.checked) false ⟨#[], #[.slice none 0 0], []⟩ 8 (by kernel_rfl) (by kernel_rfl) (by kernel_rfl) (by kernel_rfl)) ?_
  intro W base args ds gs before hval0 hW _ _
  have hval : ∀ (j : Nat) t v, Try.f7.params[j]? = some t → args[j]? = some v → Value.okWide Try.prog W .any base t v := hval0
  have hW' := hW
  obtain ⟨p, q, hA0, hV, rfl, hfz, hnd⟩ := hW
  have hA : DataW.TrodAll enc Try.prog W 0 (fun _ => true) true Try.f7.params.toList args.toList ds p := hA0
  rw [Try.params7] at hA hval
  obtain ⟨v0, vs0, d0, ds0, p0, q0, hargs, rfl, rfl, h0, r0⟩ := trodAll_cons hA
  obtain ⟨rfl, rfl, rfl⟩ := trodAll_nil r0
  obtain rfl : args = #[v0] := by cases args; simp_all
  obtain ⟨rfl, rfl⟩ := trodVars_none hV
  have lt0 : ∀ x ∈ p0, x.block < W.heap.size := by obtain ⟨m, hm⟩ := h0; exact DataW.trod_lt m _ _ _ hm
  obtain ⟨x0, rfl, w0⟩ := open_wts (hval 0 22 v0 rfl rfl) h0
  clear hA0 hval0
  refine (alphaBetween_walk x0 W w0).mono fun e W' ⟨he, bel⟩ => ?_
  subst he
  exact ⟨_, rfl, _, _, _, [], _, [], hW', trodAll_mk1 (shut_bool Try.underlying4 _), (trodAll_cons_mk (Below.trod laidOut (by kernel_rfl) (of_decide_eq_true (by kernel_rfl)) h0 bel lt0) trodAll_mk0), rfl, bel.frame _, fun h => by cases h⟩

theorem alphaBetween_holds : Rows.AlphaBetweenSaid :=
  OpenClaim.holds_of_wide 7 Try.f7 rfl rfl rfl rfl rfl rfl rfl ⟨rfl, rfl, rfl, rfl, rfl⟩ rfl rfl rfl rfl rfl (by kernel_rfl) Try.func7 (by kernel_rfl)
    (of_decide_eq_true (by kernel_rfl)) (by unfold Func.isWrapper; rw [if_neg (of_decide_eq_false (by kernel_rfl))]; exact ⟨rfl, rfl⟩)
    (fun os started H enc _ => alphaBetween_lifted os started H enc)

#print axioms alphaBetween_holds

end Go.Proofs.Ytakggfogoobdnaa
