/-
  For any weights that rise a code whose words rise costs what the best of all does: AlphaSorted returns true for every list of weights, and changes nothing.
-/
import Derived.Test.YtakggfogoobdnaaOpn
import Derived.Test.YtakggfogoobdnaaAco
import Derived.Test.YtakggfogoobdnaaAlp3
namespace Go.Proofs.Ytakggfogoobdnaa
open Go.ChangeShapes Go.WideShapes Go.ChangeAt Go.RowKit Go.Deep
set_option linter.unusedVariables false

theorem adj_pairwise : ∀ v : List Nat, (∀ i, i + 1 < v.length → v.getD i 0 ≤ v.getD (i + 1) 0) → v.Pairwise (· ≤ ·)
  | [], _ => List.Pairwise.nil
  | [_], _ => by simp
  | w :: u :: v, h => by
    have ih := adj_pairwise (u :: v) (fun i hi => by
      have := h (i + 1) (by simpa using hi)
      simpa using this)
    refine List.Pairwise.cons ?_ ih
    have h0 : w ≤ u := by
      have := h 0 (by simp)
      simpa using this
    intro y hy
    rcases List.mem_cons.1 hy with rfl | hy
    · exact h0
    · exact Nat.le_trans h0 ((List.pairwise_cons.1 ih).1 y hy)

theorem first_zero {v a : List Nat} (ha : Opt v a) (h2 : 2 ≤ v.length) (h0 : dot v a = 0) : v.getD 0 0 = 0 := by
  match v, h2 with
  | w :: u :: v, _ =>
    have := some_cost ha (by simp)
    simp
    omega

set_option maxHeartbeats 4000000 in
theorem alphaSorted_walk (x : Nm) (w : World) (hx : Nums w x) : Calls Try.prog 8 #[x.v] w fun e w' => e = .returned (.bool true) ∧ Ext w w' := by
  have HWD : Hid (∀ W, Ext w W → Calls Try.prog 18 #[x.v] W fun e w' => e = .returned (.bool (werl x.z == 0)) ∧ w' = W) := fun W e => weighed_any x W (hx.ext e)
  by_cases hok : werl x.z = 0
  · obtain ⟨v, hxv, h8, hw⟩ := werl_lz hok
    have HC := acostG_any x v w hx hxv hok
    have HH : Hid (∀ W, Ext w W → Calls Try.prog 22 #[x.v] W fun e w' => ∃ l : List Nat, e = .returned (.tuple #[.int .i64 (dot v l : Nat), .int .i64 0]) ∧ Ext W w' ∧ Best (wof (lz v)) v.length l) := fun W e =>
      (costG_any x W (hx.ext e) hok).mono (by
        rintro e w' ⟨l, rfl, h1, h2⟩
        rw [hxv, lz_length] at h2 ⊢
        exact ⟨l, by rw [(best_list h8 h2).2.2.2.1], h1, h2⟩)
    rw [hok] at HWD
    obtain ⟨a, c, z⟩ := x
    simp only [Nm.v] at *
    subst hxv
    obtain ⟨q1, q2, _, qb, qo, q4, q5⟩ := hx
    simp only at q1 q2 q4 q5
    rw [lz_length] at q1 q4 q5 HC HH HWD ⊢
    have HV8 : Hid (v.length ≤ 8) := h8
    have HW : Hid (∀ u ∈ v, u ≤ 1048576) := hw
    obtain ⟨n, hn⟩ : ∃ n, v.length = n := ⟨_, rfl⟩
    have HN : Hid (v.length = n) := hn
    rw [hn] at q1 q4 q5 HC HWD h8 ⊢
    have Q5 : Hid (∀ i, i < n → w.cell? ⟨qb, qo + i, none⟩ = some (.int .i64 ((lz v).getD i 0))) := q5
    have HH2 : Hid (∀ W, Ext w W → Calls Try.prog 22 #[.slice a n c] W fun e w' => ∃ l : List Nat, e = .returned (.tuple #[.int .i64 (dot v l : Nat), .int .i64 0]) ∧ Ext W w' ∧ Best (wof (lz v)) v.length l) := by rw [← hn]; exact HH
    unfold maxLen at q2
    clear hok hw q5 hn HH
    go_enter Try.func8, Try.ntmps8
    go_wp2_with fail
    refine HC.mono ?_
    rintro e w1 ⟨l1, rfl, hO1, hE1⟩
    have HO1 : Hid (Opt v l1) := hO1
    have E1 : Hid (Ext w w1) := hE1
    clear hO1 hE1 HC
    go_wp2_with fail
    refine (HH2.out w1 E1.out).mono ?_
    rintro e w2 ⟨l2, rfl, hE2, hB2⟩
    have HB2 : Hid (Best (wof (lz v)) v.length l2) := hB2
    have E2 : Hid (Ext w w2) := E1.out.trans hE2
    clear hB2 hE2 HH2
    have bA : dot v l1 ≤ 67108864 := by
      have := dot_le v l1 1048576 HW.out (fun d hd => by have := HO1.out.1.le d hd; have := HN.out; omega)
      have h2 : v.length * (1048576 * 8) ≤ 8 * (1048576 * 8) := Nat.mul_le_mul_right _ HV8.out
      omega
    have bH : dot v l2 ≤ 67108864 := Nat.le_trans (between HV8.out HO1.out HB2.out).1 bA
    have SR : Hid ((∀ i, i + 1 < n → v.getD i 0 ≤ v.getD (i + 1) 0) → dot v l1 = dot v l2) := fun h => sorted HV8.out HO1.out HB2.out (adj_pairwise v (fun i hi => h i (by rw [HN.out] at hi; exact hi)))
    have FZ : Hid (2 ≤ n → dot v l1 = 0 → v.getD 0 0 = 0) := fun h2 h0 => first_zero HO1.out (by rw [HN.out]; exact h2) h0
    obtain ⟨A, hA⟩ : ∃ A, dot v l1 = A := ⟨_, rfl⟩
    obtain ⟨H, hH⟩ : ∃ H, dot v l2 = H := ⟨_, rfl⟩
    rw [hA] at bA SR FZ ⊢
    rw [hH] at bH SR ⊢
    clear hA hH HO1 HB2
    go_wp2_with fail
    refine (HWD.out w2 E2.out).mono ?_
    rintro e w3 ⟨rfl, rfl⟩
    clear HWD
    go_wp2
    go_loopg [7, 8] n (fun gg s7 s8 wr => ∃ (k : Nat) (b : Bool), 1 ≤ k ∧ (k ≤ n ∨ k = 1) ∧ n - k ≤ gg ∧ s8 = .int .i64 k ∧ s7 = .bool b ∧ Aside (b = true → ∀ i, i + 1 < k → v.getD i 0 ≤ v.getD (i + 1) 0) ∧ Aside (Qt w3 wr))
    case atStart => exact ⟨1, true, by omega, by omega, by omega, rfl, rfl, fun _ i hi => by omega, Qt.refl w3⟩
    case round =>
      obtain ⟨k, b, hk1, hk, hgg, rfl, rfl, A', QW⟩ := hrel
      by_cases hlt : k < n
      · have hltz : (k : Int) < (n : Int) := by omega
        obtain rfl := q4 (by omega)
        obtain ⟨j, rfl⟩ : ∃ j, k = j + 1 := ⟨k - 1, by omega⟩
        have e1 := QW.out.cell (E2.out.cell (Q5.out j (by omega)))
        have e2 := QW.out.cell (E2.out.cell (Q5.out (j + 1) hlt))
        rw [lz_z] at e1 e2
        have hj1 : ((j + 1 : Nat) : Int) - 1 = (j : Int) := by omega
        have hjz : (j : Int) < (n : Int) := by omega
        cases b with
        | true =>
          have NX : Hid (decide (v.getD j 0 ≤ v.getD (j + 1) 0) = true → ∀ i, i + 1 < j + 1 + 1 → v.getD i 0 ≤ v.getD (i + 1) 0) := by
            intro hd i hi
            by_cases hij : i = j
            · subst hij
              simpa using hd
            · exact A'.out rfl i (by omega)
          clear A'
          generalize v.getD j 0 = u1 at *
          generalize v.getD (j + 1) 0 = u2 at *
          go_wp2
          go_quiet (fail)
          go_wp2
          go_roundg (n - (j + 1 + 1))
          case measure => omega
          case rel => exact ⟨j + 1 + 1, decide (u1 ≤ u2), by omega, by omega, by omega, by go_num, by simp, NX.out, QW.out.drewN _⟩
        | false =>
          clear A'
          go_wp2
          go_quiet (fail)
          go_wp2
          go_roundg (n - (j + 1 + 1))
          case measure => omega
          case rel => exact ⟨j + 1 + 1, false, by omega, by omega, by omega, by go_num, rfl, (fun h => by cases h), QW.out.drewN _⟩
      · have hltz : ¬ (k : Int) < (n : Int) := by omega
        have E3 : Hid (Ext w wr) := E2.out.trans QW.out.ext
        have SRB : Hid (b = true → A = H) := fun hb => SR.out (fun i hi => A'.out hb i (by omega))
        clear A' SR
        have hdisj : n < 2 ∨ 0 < A ∨ (2 ≤ n ∧ A = 0) := by omega
        cases b with
        | true =>
          have hAH : A = H := SRB.out rfl
          subst hAH
          clear SRB
          rcases hdisj with h | h | ⟨h, h0⟩
          · have z1 : (n : Int) < 2 := by omega
            go_wp2
            go_ret
            exact ⟨ret_bool (by simp), E3.out⟩
          · have z1 : (0 : Int) < (A : Int) := by omega
            by_cases h2 : n < 2
            · have z2 : (n : Int) < 2 := by omega
              go_wp2
              go_ret
              exact ⟨ret_bool (by simp), E3.out⟩
            · have z2 : ¬ (n : Int) < 2 := by omega
              go_wp2
              go_ret
              exact ⟨ret_bool (by simp), E3.out⟩
          · obtain rfl := q4 (by omega)
            have e0 := QW.out.cell (E2.out.cell (Q5.out 0 (by omega)))
            rw [lz_z, FZ.out h h0] at e0
            simp only [Nat.add_zero] at e0
            have z1 : ¬ (n : Int) < 2 := by omega
            have z3 : (0 : Int) < (n : Int) := by omega
            subst h0
            clear FZ
            go_wp2
            go_ret
            exact ⟨ret_bool (by simp), E3.out⟩
        | false =>
          clear SRB
          rcases hdisj with h | h | ⟨h, h0⟩
          · have z1 : (n : Int) < 2 := by omega
            go_wp2
            go_ret
            exact ⟨ret_bool (by simp), E3.out⟩
          · have z1 : (0 : Int) < (A : Int) := by omega
            by_cases h2 : n < 2
            · have z2 : (n : Int) < 2 := by omega
              go_wp2
              go_ret
              exact ⟨ret_bool (by simp), E3.out⟩
            · have z2 : ¬ (n : Int) < 2 := by omega
              go_wp2
              go_ret
              exact ⟨ret_bool (by simp), E3.out⟩
          · obtain rfl := q4 (by omega)
            have e0 := QW.out.cell (E2.out.cell (Q5.out 0 (by omega)))
            rw [lz_z, FZ.out h h0] at e0
            simp only [Nat.add_zero] at e0
            have z1 : ¬ (n : Int) < 2 := by omega
            have z3 : (0 : Int) < (n : Int) := by omega
            subst h0
            clear FZ
            go_wp2
            go_ret
            exact ⟨ret_bool (by simp), E3.out⟩
  · have HC := acostB_any x w hx hok
    have HH : Hid (∀ W, Ext w W → Calls Try.prog 22 #[x.v] W fun e w' => e = .returned (.tuple #[.int .i64 0, .int .i64 (werl x.z)]) ∧ Ext W w') := fun W e => costB_any x W (hx.ext e) hok
    have hr : (werl x.z == 0) = false := by simpa using hok
    have hne : (werl x.z != 0) = true := by simp [bne, hr]
    clear hx hok
    obtain ⟨a, c, z⟩ := x
    simp only [Nm.v] at *
    generalize werl z = r at *
    generalize z.length = n at *
    go_enter Try.func8, Try.ntmps8
    go_wp2_with fail
    refine HC.mono ?_
    rintro e w1 ⟨rfl, hb⟩
    go_wp2_with fail
    refine (HH.out w1 hb).mono ?_
    rintro e w2 ⟨rfl, hb2⟩
    go_wp2_with fail
    refine (HWD.out w2 (hb.trans hb2)).mono ?_
    rintro e w3 ⟨rfl, rfl⟩
    go_wp2
    go_ret
    exact ⟨ret_bool (by simp), hb.trans hb2⟩

set_option maxRecDepth 100000 in
theorem alphaSorted_lifted (os : Os) (started : os.Started) (H : Type) (enc : TypeId × Value → H) :
    ReturnsInHanded {} Try.checked os 8 .any (Rows.alphaSortedSpec.pre6 enc Try.prog Try.f8 Rows.alphaSortedRow.domain false) (Rows.alphaSortedSpec.post enc Try.prog Try.f8 false true false false) := by
  refine returnsInHanded_of_change (C := Try.checked) own started (by kernel_rfl) Try.func8
    (ChangeSpec.witness6 (enc := enc) (C := Try.checked) false ⟨#[], #[.slice none 0 0], []⟩ 8 (by kernel_rfl) (by kernel_rfl) (by kernel_rfl) (by kernel_rfl)) ?_
  intro W base args ds gs before hval0 hW _ _
  have hval : ∀ (j : Nat) t v, Try.f8.params[j]? = some t → args[j]? = some v → Value.okWide Try.prog W .any base t v := hval0
  have hW' := hW
  obtain ⟨p, q, hA0, hV, rfl, hfz, hnd⟩ := hW
  have hA : DataW.TrodAll enc Try.prog W 0 (fun _ => true) true Try.f8.params.toList args.toList ds p := hA0
  rw [Try.params8] at hA hval
  obtain ⟨v0, vs0, d0, ds0, p0, q0, hargs, rfl, rfl, h0, r0⟩ := trodAll_cons hA
  obtain ⟨rfl, rfl, rfl⟩ := trodAll_nil r0
  obtain rfl : args = #[v0] := by cases args; simp_all
  obtain ⟨rfl, rfl⟩ := trodVars_none hV
  have lt0 : ∀ x ∈ p0, x.block < W.heap.size := by obtain ⟨m, hm⟩ := h0; exact DataW.trod_lt m _ _ _ hm
  obtain ⟨x0, rfl, w0⟩ := open_wts (hval 0 22 v0 rfl rfl) h0
  clear hA0 hval0
  refine (alphaSorted_walk x0 W w0).mono fun e W' ⟨he, bel⟩ => ?_
  subst he
  exact ⟨_, rfl, _, _, _, [], _, [], hW', trodAll_mk1 (shut_bool Try.underlying4 _), (trodAll_cons_mk (Below.trod laidOut (by kernel_rfl) (of_decide_eq_true (by kernel_rfl)) h0 bel lt0) trodAll_mk0), rfl, bel.frame _, fun h => by cases h⟩

theorem alphaSorted_holds : Rows.AlphaSortedSaid :=
  OpenClaim.holds_of_wide 8 Try.f8 rfl rfl rfl rfl rfl rfl rfl ⟨rfl, rfl, rfl, rfl, rfl⟩ rfl rfl rfl rfl rfl (by kernel_rfl) Try.func8 (by kernel_rfl)
    (of_decide_eq_true (by kernel_rfl)) (by unfold Func.isWrapper; rw [if_neg (of_decide_eq_false (by kernel_rfl))]; exact ⟨rfl, rfl⟩)
    (fun os started H enc _ => alphaSorted_lifted os started H enc)

#print axioms alphaSorted_holds

end Go.Proofs.Ytakggfogoobdnaa
