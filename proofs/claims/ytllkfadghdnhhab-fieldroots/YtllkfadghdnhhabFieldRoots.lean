/-
  A polynomial that is not all 0 is 0 at fewer numbers than it has: FieldRoots returns true for every list of numbers, and changes nothing.
-/
import Derived.Test.YtllkfadghdnhhabOpen
import Derived.Test.YtllkfadghdnhhabAt
import Derived.Test.YtllkfadghdnhhabRt
import Derived.ProofKit
namespace Go.Proofs.Ytllkfadghdnhhab
open Go.ChangeShapes Go.WideShapes Go.ChangeAt Go.RowKit Go.Deep
set_option linter.unusedVariables false

/-- Numbers as they lie in memory. -/
abbrev zl (l : List Nat) : List Int := List.map (fun (n : Nat) => (Nat.cast n : Int)) l

theorem zl_of {z : List Int} (h : ∀ x ∈ z, 0 ≤ x ∧ x ≤ 15) : ∃ l : List Nat, z = zl l ∧ ∀ c ∈ l, c < 16 := by
  refine ⟨z.map Int.toNat, ?_, ?_⟩
  · rw [zl, List.map_map]
    have : z.map ((fun n : Nat => (n : Int)) ∘ Int.toNat) = z.map id := List.map_congr_left fun x hx => by
      have := h x hx
      simp
      omega
    rw [this, List.map_id]
  · intro c hc
    obtain ⟨x, hx, rfl⟩ := List.mem_map.1 hc
    have := h x hx
    omega

theorem fieldRoots_bad (y : Nm) (X : Int) (h : fe y.z = X) (h0 : X ≠ 0) (w : World) (hy : Nums w y) : Calls Try.prog 3 #[y.v] w fun e w' => e = .returned (.bool true) ∧ Ext w w' := by
  have c1 := numbers_any y w hy
  have c2 := At_l y 1 (by omega) (by rw [h]; exact h0) w hy
  rw [h] at c1 c2
  rw [beq_eq_false_iff_ne.2 h0] at c1
  have hz : (X != 0) = true := bne_iff_ne.2 h0
  simp only [Int.natCast_one] at c2
  clear h h0 hy
  simp only [Nm.v] at *
  generalize y.z.length = len at *
  go_enter Try.func3, Try.ntmps3
  go_wp2_with fail
  refine c1.mono ?_
  rintro e w' ⟨rfl, rfl⟩
  clear c1
  go_wp2_with fail
  refine c2.mono ?_
  rintro e w2 ⟨rfl, E⟩
  have E2 : Hid (Ext w' w2) := E
  clear c2 E
  go_wp2
  go_ret
  exact ⟨rfl, E2.out⟩

theorem fieldRoots_large (y : Nm) (h : fe y.z = 0) (hl : 64 < y.z.length) (w : World) (hy : Nums w y) : Calls Try.prog 3 #[y.v] w fun e w' => e = .returned (.bool true) ∧ Ext w w' := by
  have c1 := numbers_any y w hy
  have c2 := At_large y 1 (by omega) h hl w hy
  rw [h] at c1
  simp only [Int.natCast_one] at c2
  have hl2 : (64 : Int) < (y.z.length : Int) := by omega
  clear h hy hl
  simp only [Nm.v] at *
  generalize y.z.length = len at *
  go_enter Try.func3, Try.ntmps3
  go_wp2_with fail
  refine c1.mono ?_
  rintro e w' ⟨rfl, rfl⟩
  clear c1
  go_wp2_with fail
  refine c2.mono ?_
  rintro e w2 ⟨rfl, E⟩
  have E2 : Hid (Ext w' w2) := E
  clear c2 E
  go_wp2
  go_ret
  exact ⟨rfl, E2.out⟩

theorem fieldRoots_good (y : Nm) (zs : List (Fin 16)) (hz : y.z = (fl zs).map (fun (n : Nat) => (Nat.cast n : Int))) (h : fe y.z = 0) (hl : zs.length ≤ 64) (w : World) (hy : Nums w y) : Calls Try.prog 3 #[y.v] w fun e w' => e = .returned (.bool true) ∧ Ext w w' := by
  have c1 := numbers_any y w hy
  rw [h] at c1
  have hm : y.z.length = zs.length := by rw [hz]; simp
  have l16 : ∀ c ∈ fl zs, c < 16 := fun c hc => by
    obtain ⟨d, _, rfl⟩ := List.mem_map.1 hc
    exact d.isLt
  have A : Hid (∀ (x : Nat) (W : World), x < 16 → Ext w W → Calls Try.prog 5 #[y.v, .int .i64 x] W fun e w' => e = .returned (.tuple #[.int .i64 (ev x (fl zs) : Nat), .int .i64 0]) ∧ Ext W w') := fun x W hx E => At_good zs hl x hx y hz W (hy.ext E)
  have NR : Hid (∀ (v : Nat) (W : World), v < 16 → Calls Try.prog 4 #[.slice (some ⟨W.heap.size, 0, none⟩) 1 1] (W.alloc (.cells #[.int .i64 v] 3)) fun e w' => e = .returned (.bool true) ∧ w' = W.alloc (.cells #[.int .i64 v] 3)) := fun v W hv => by
    have := numbers_row [(v : Int)] (by simp [maxLen]) W
    rw [fe_good (by intro x hx; simp at hx; omega)] at this
    exact this
  have VL : Hid (∀ x, x < 16 → ev x (fl zs) < 16) := fun x hx => ev_lt hx l16
  have RN : Hid (∀ k, rt (fl zs) (k + 1) = rt (fl zs) k + (if ev k (fl zs) = 0 then 1 else 0)) := fun k => rt_next (fl zs) k
  have RL : Hid (∀ k, rt (fl zs) k ≤ k) := rt_le (fl zs)
  have fin1 : Hid ((∀ i, i < zs.length → (zs.getD i 0).val = 0) → rt (fl zs) 16 = 16) := fun hh => all_zero (fun c hc => by
    obtain ⟨i, hi, rfl⟩ := List.mem_iff_getElem.1 hc
    have hi' : i < zs.length := by simpa using hi
    have := hh i hi'
    simpa [List.getD_eq_getElem?_getD, hi'] using this)
  have fin2 : Hid (∀ i, i < zs.length → (zs.getD i 0).val ≠ 0 → rt (fl zs) 16 < zs.length) := fun i hi hh => by
    have := lagrange _ (fl zs) rfl l16 (fun hall => hh (by
      have := hall _ (List.getElem_mem (l := fl zs) (n := i) (by simpa using hi))
      simpa [List.getD_eq_getElem?_getD, hi] using this))
    simpa using this
  obtain ⟨h1, h2, _, b, o, h3, h4⟩ := hy
  rw [hm] at h1 h3 h4
  have HC : Hid (∀ i, i < zs.length → ∀ W, Ext w W → W.cell? ⟨b, o + i, none⟩ = some (.int .i64 ((zs.getD i 0).val : Int))) := fun i hi W E => by
    rw [E.cell (h4 i hi), hz]
    simp [List.getD_eq_getElem?_getD, hi]
  have HA : Hid (0 < zs.length → y.a = some ⟨b, o, none⟩) := h3
  clear h4 h3 hz h l16 h1 h2
  have hv : y.v = .slice y.a zs.length y.c := by simp only [Nm.v]; rw [hm]
  rw [hv] at c1 A ⊢
  clear hv hm
  obtain ⟨ya, yc, yz⟩ := y
  simp only at *
  obtain ⟨Z, hZ⟩ : ∃ Z : Nat → Fin 16, (fun j => zs.getD j 0) = Z := ⟨_, rfl⟩
  have HC : Hid (∀ i, i < zs.length → ∀ W, Ext w W → W.cell? ⟨b, o + i, none⟩ = some (.int .i64 ((Z i).val : Int))) := fun i hi W E => by rw [← hZ]; exact HC.out i hi W E
  have fin1 : Hid ((∀ i, i < zs.length → (Z i).val = 0) → rt (fl zs) 16 = 16) := fun hh => fin1.out (by rw [← hZ] at hh; exact hh)
  have fin2 : Hid (∀ i, i < zs.length → (Z i).val ≠ 0 → rt (fl zs) 16 < zs.length) := fun i hi hh => fin2.out i hi (by rw [← hZ] at hh; exact hh)
  clear hZ
  generalize fl zs = l at *
  generalize zs.length = len at *
  have hl2 : ¬ (64 : Int) < (len : Int) := by omega
  go_enter Try.func3, Try.ntmps3
  go_wp2_with fail
  refine c1.mono ?_
  rintro e w' ⟨rfl, rfl⟩
  clear c1
  rename World => w
  go_wp2
  go_loopg [5, 6] 16 (fun gg s5 s6 wr => ∃ k : Nat, k ≤ 16 ∧ 16 - k ≤ gg ∧ s5 = .int .i64 (rt l k : Nat) ∧ s6 = .int .i64 k ∧ Aside (Ext w wr))
  case atStart => exact ⟨0, Nat.zero_le _, by omega, rfl, rfl, Ext.refl _⟩
  case round =>
    obtain ⟨k, hk, hgg, rfl, rfl, BW⟩ := hrel
    by_cases hlt : k < 16
    · have hltz : (k : Int) < 16 := by omega
      have c2 := A.out k wr hlt BW.out
      have v16 := VL.out k hlt
      have rn : Hid (rt l (k + 1) = rt l k + (if ev k l = 0 then 1 else 0)) := RN.out k
      have rl := RL.out k
      generalize rt l k = R at *
      generalize ev k l = V at *
      go_wp2_with fail
      refine c2.mono ?_
      rintro e w2 ⟨rfl, E2⟩
      have B2 : Hid (Ext w (w2.alloc (.cells #[.int .i64 V] 3))) := (BW.out.trans E2).alloc _
      have c3 := NR.out V w2 v16
      clear c2 E2 BW
      go_wp2_with fail
      refine c3.mono ?_
      rintro e w' ⟨rfl, rfl⟩
      clear c3
      by_cases hV : V = 0
      · subst hV
        have rn' : Hid (rt l (k + 1) = R + 1) := rn.out
        clear rn
        go_wp2
        go_roundg (16 - (k + 1))
        case measure => omega
        case rel => exact ⟨k + 1, by omega, by omega, by rw [rn'.out]; go_num, by go_num, B2.out⟩
      · have rn' : Hid (rt l (k + 1) = R) := by have := rn.out; rwa [if_neg hV] at this
        have hV2 : ((V : Int) == 0) = false := beq_eq_false_iff_ne.2 (by omega)
        clear rn hV
        go_wp2
        go_roundg (16 - (k + 1))
        case measure => omega
        case rel => exact ⟨k + 1, by omega, by omega, by rw [rn'.out], by go_num, B2.out⟩
    · obtain rfl : k = 16 := by omega
      have rl := RL.out 16
      clear RN RL VL NR A
      generalize rt l 16 = R at *
      go_wp2
      go_loopg [9, 51] len (fun gg s9 s51 wr2 => ∃ k : Nat, ∃ q : Bool, k ≤ len ∧ len - k ≤ gg ∧ s9 = .bool q ∧ s51 = .int .i64 k ∧ Aside (q = true → ∀ i, i < k → (Z i).val = 0) ∧ Aside (q = false → ∃ i, i < len ∧ (Z i).val ≠ 0) ∧ Aside (Ext w wr2))
      case atStart => exact ⟨0, true, Nat.zero_le _, by omega, rfl, rfl, fun _ i hi => absurd hi (Nat.not_lt_zero _), (fun h => by cases h), BW.out⟩
      case round =>
        obtain ⟨k, q, hk, hgg, rfl, rfl, Q1, Q2, BO⟩ := hrel
        clear BW
        by_cases hlt : k < len
        · have hltz : (k : Int) < (len : Int) := by omega
          have e1 := HC.out k hlt _ BO.out
          obtain rfl := HA.out (by omega)
          cases q with
          | false =>
            have Q3 : Aside (∃ i, i < len ∧ (Z i).val ≠ 0) := Q2.out rfl
            clear Q1 Q2
            generalize (Z k).val = c at *
            go_wp2
            go_roundg (len - (k + 1))
            case measure => omega
            case rel => exact ⟨k + 1, false, by omega, by omega, rfl, by go_num, (fun h => by cases h), fun _ => Q3.out, BO.out⟩
          | true =>
            have Q3 : Aside (∀ i, i < k → (Z i).val = 0) := Q1.out rfl
            have go1 : Aside ((Z k).val = 0 → ∀ i, i < k + 1 → (Z i).val = 0) := fun h i hi => by
              rcases Nat.lt_succ_iff_lt_or_eq.1 hi with h' | rfl
              · exact Q3.out i h'
              · exact h
            have go2 : Aside ((Z k).val ≠ 0 → ∃ i, i < len ∧ (Z i).val ≠ 0) := fun h => ⟨k, hlt, h⟩
            clear Q1 Q2 Q3
            generalize (Z k).val = c at *
            by_cases hc : c = 0
            · subst hc
              have g1 : Aside (∀ i, i < k + 1 → (Z i).val = 0) := go1.out rfl
              clear go1 go2
              go_wp2
              go_roundg (len - (k + 1))
              case measure => omega
              case rel => exact ⟨k + 1, true, by omega, by omega, rfl, by go_num, fun _ => g1.out, (fun h => by cases h), BO.out⟩
            · have g2 : Aside (∃ i, i < len ∧ (Z i).val ≠ 0) := go2.out hc
              have hc2 : ((c : Int) == 0) = false := beq_eq_false_iff_ne.2 (by omega)
              clear go1 go2 hc
              go_wp2
              go_roundg (len - (k + 1))
              case measure => omega
              case rel => exact ⟨k + 1, false, by omega, by omega, rfl, by go_num, (fun h => by cases h), fun _ => g2.out, BO.out⟩
        · obtain rfl : k = len := by omega
          cases q with
          | true =>
            have r16 := fin1.out (Q1.out rfl)
            subst r16
            clear fin1 fin2 Q1 Q2
            go_wp2
            go_ret
            exact ⟨rfl, BO.out⟩
          | false =>
            obtain ⟨i, hi, hne⟩ := Q2.out rfl
            have rlt := fin2.out i hi hne
            have rltz : (R : Int) < (k : Int) := by omega
            clear fin1 fin2 Q1 Q2 hne hi rlt
            go_wp2
            go_ret
            exact ⟨rfl, BO.out⟩

theorem fieldRoots_walk (y : Nm) (w : World) (hy : Nums w y) : Calls Try.prog 3 #[y.v] w fun e w' => e = .returned (.bool true) ∧ Ext w w' := by
  by_cases h : fe y.z = 0
  · by_cases hl : 64 < y.z.length
    · exact fieldRoots_large y h hl w hy
    · obtain ⟨l, e, hl16⟩ := zl_of (fe_zero h)
      obtain ⟨zs, rfl⟩ := fin_of hl16
      have hm : zs.length = y.z.length := by rw [e]; simp
      exact fieldRoots_good y zs e h (by omega) w hy
  · exact fieldRoots_bad y _ rfl h w hy

set_option maxRecDepth 100000 in
theorem fieldRoots_lifted (os : Os) (started : os.Started) (H : Type) (enc : TypeId × Value → H) :
    ReturnsInHanded {} Try.checked os 3 .any (Rows.fieldRootsSpec.pre6 enc Try.prog Try.f3 Rows.fieldRootsRow.domain false) (Rows.fieldRootsSpec.post enc Try.prog Try.f3 false true false false) := by
  refine returnsInHanded_of_change (C := Try.checked) own started (by kernel_rfl) Try.func3
    (ChangeSpec.witness6 (enc := enc) (C := Try.checked) false ⟨#[], #[.slice none 0 0], []⟩ 8 (by kernel_rfl) (by kernel_rfl) (by kernel_rfl) (by kernel_rfl)) ?_
  intro W base args ds gs before hval0 hW _ _
  have hval : ∀ (j : Nat) t v, Try.f3.params[j]? = some t → args[j]? = some v → Value.okWide Try.prog W .any base t v := hval0
  have hW' := hW
  obtain ⟨p, q, hA0, hV, rfl, hfz, hnd⟩ := hW
  have hA : DataW.TrodAll enc Try.prog W 0 (fun _ => true) true Try.f3.params.toList args.toList ds p := hA0
  rw [Try.params3] at hA hval
  obtain ⟨v0, vs0, d0, ds0, p0, q0, hargs, rfl, rfl, h0, r0⟩ := trodAll_cons hA
  obtain ⟨rfl, rfl, rfl⟩ := trodAll_nil r0
  obtain rfl : args = #[v0] := by cases args; simp_all
  obtain ⟨rfl, rfl⟩ := trodVars_none hV
  have lt0 : ∀ x ∈ p0, x.block < W.heap.size := by obtain ⟨m, hm⟩ := h0; exact DataW.trod_lt m _ _ _ hm
  obtain ⟨x0, rfl, w0⟩ := open_syms (hval 0 22 v0 rfl rfl) h0
  clear hA0 hval0
  refine (fieldRoots_walk x0 W w0).mono fun e W' ⟨he, bel⟩ => ?_
  subst he
  exact ⟨_, rfl, _, _, _, [], _, [], hW', trodAll_mk1 (shut_bool Try.underlying4 _), (trodAll_cons_mk (Below.trod laidOut (by kernel_rfl) (of_decide_eq_true (by kernel_rfl)) h0 bel lt0) trodAll_mk0), rfl, bel.frame _, fun h => by cases h⟩

theorem fieldRoots_holds : Rows.FieldRootsSaid :=
  OpenClaim.holds_of_wide 3 Try.f3 rfl rfl rfl rfl rfl rfl rfl ⟨rfl, rfl, rfl, rfl, rfl⟩ rfl rfl rfl rfl rfl (by kernel_rfl) Try.func3 (by kernel_rfl)
    (of_decide_eq_true (by kernel_rfl)) (by unfold Func.isWrapper; rw [if_neg (of_decide_eq_false (by kernel_rfl))]; exact ⟨rfl, rfl⟩)
    (fun os started H enc _ => fieldRoots_lifted os started H enc)

#print axioms fieldRoots_holds

end Go.Proofs.Ytllkfadghdnhhab
