/-
  For any polynomial and any number the program tells what it is there: FieldAts returns true for every list of numbers and every number, and changes nothing.
-/
import Derived.Test.YtllkfadghdnhhaaOpen
import Derived.Test.YtllkfadghdnhhaaAt
import Derived.Test.YtllkfadghdnhhaaRf
import Derived.Test.YtllkfadghdnhhaaFst
import Derived.ProofKit
namespace Go.Proofs.Ytllkfadghdnhhaa
open Go.ChangeShapes Go.WideShapes Go.ChangeAt Go.RowKit Go.Deep
set_option linter.unusedVariables false

/-- A number by itself, as a list that the caller has made just now. -/
theorem own_one (w0 w : World) (h : Ext w0 w) (q : Int) : OwnN w0 (w.alloc (.cells #[.int .i64 q] 3)) (.slice (some ⟨w.heap.size, 0, none⟩) 1 1) [q] := by
  refine ⟨h.alloc _, by simp, Or.inr ⟨w.heap.size, 1, #[.int .i64 q], rfl, h.size, heap_alloc_new _ _, by simp, by simp [maxLen], by simp, by simp⟩⟩

theorem fe_cons (x : Int) (z : List Int) : fe (x :: z) = if fe [x] = 0 then fe z else 4 := by
  by_cases hx : 0 ≤ x ∧ x ≤ 15
  · rw [if_pos (fe_good (by intro y hy; simp at hy; rw [hy]; exact hx))]
    by_cases hz : ∀ y ∈ z, 0 ≤ y ∧ y ≤ 15
    · rw [fe_good hz, fe_good (by
      intro y hy
      rcases List.mem_cons.1 hy with h | h
      · rw [h]; exact hx
      · exact hz y h)]
    · rw [fe_bad hz, fe_bad (fun h => hz (fun y hy => h y (List.mem_cons_of_mem _ hy)))]
  · rw [if_neg (by rw [fe_bad (fun h => hx (h x (by simp)))]; decide), fe_bad (fun h => hx (h x (by simp)))]

theorem fieldAts_bad (y : Nm) (x : Int) (X : Int) (hX : fe (x :: y.z) = X) (h0 : X ≠ 0) (hb : y.z.length * 8 ≤ 140737488351232) (w : World) (hy : Nums w y)
    (c1 : Calls Try.prog 16 #[y.v, .int .i64 x] w fun e w' => e = .returned (.tuple #[.int .i64 0, .int .i64 X]) ∧ Ext w w') : Calls Try.prog 6 #[y.v, .int .i64 x] w fun e w' => e = .returned (.bool true) ∧ Ext w w' := by
  have HY : Hid (∀ W, Ext w W → Nums W y) := fun W E => hy.ext E
  have HO : Hid (∀ W, Ext w W → OwnN w (W.alloc (.cells #[.int .i64 x] 3)) (.slice (some ⟨W.heap.size, 0, none⟩) 1 1) [(x : Int)]) := fun W E => own_one w W E x
  have HF : Hid (∀ (W : World) v, OwnN w W v ([(x : Int)] ++ y.z) → Calls Try.prog 10 #[v] W fun e w' => e = .returned (.int .i64 X) ∧ w' = W) := fun W v ho => by
    obtain ⟨m, rfl, hm, hn⟩ := ho.nums
    have := refCheck_any m W hn
    rw [hm, List.singleton_append, hX] at this
    exact this
  have hz : (X != 0) = true := bne_iff_ne.2 h0
  have hz2 : (X == 0) = false := beq_eq_false_iff_ne.2 h0
  clear h0
  have hb2 : ([(x : Int)].length + y.z.length) * 8 ≤ 140737488355328 := by simp; omega
  have HB2 : Hid (([(x : Int)].length + y.z.length) * 8 ≤ 140737488355328) := hb2
  clear hb hb2 hy hX
  have HV0 : y.v = .slice y.a y.z.length y.c := rfl
  obtain ⟨ya, hya⟩ : ∃ a, y.a = a := ⟨_, rfl⟩
  obtain ⟨yc, hyc⟩ : ∃ a, y.c = a := ⟨_, rfl⟩
  obtain ⟨len, hlen⟩ : ∃ a, y.z.length = a := ⟨_, rfl⟩
  rw [hya, hyc, hlen] at HV0
  rw [HV0] at c1 ⊢
  have HV : Hid (y.v = .slice ya len yc) := HV0
  clear HV0 hya hyc hlen
  go_enter Try.func6, Try.ntmps6
  go_wp2_with fail
  refine c1.mono ?_
  rintro e w1 ⟨rfl, E1⟩
  have O1 : Hid (OwnN w (w1.alloc (.cells #[.int .i64 x] 3)) (.slice (some ⟨w1.heap.size, 0, none⟩) 1 1) [(x : Int)]) := HO.out w1 E1
  have Y1 : Hid (Nums (w1.alloc (.cells #[.int .i64 x] 3)) y) := HY.out _ (E1.alloc _)
  clear c1 E1 HO
  go_wp2_with (at_builtin; refine wpList_appendNums rfl _ _ rfl w _ (.slice (some ⟨w1.heap.size, 0, none⟩) 1 1) rfl [(x : Int)] O1.out y (by exact HV.out.symm) Y1.out HB2.out ?_; intro v2 w2 O2)
  have k2 := HF.out w2 v2 O2
  have E2 : Hid (Ext w w2) := O2.1
  clear HF O2 O1 Y1 HB2 HV HY
  go_wp2_with fail
  refine k2.mono ?_
  rintro e w' ⟨rfl, rfl⟩
  clear k2
  go_wp2
  go_ret
  exact ⟨rfl, E2.out⟩

theorem fieldAts_large (y : Nm) (x : Int) (hX : fe (x :: y.z) = 0) (hl : 64 < y.z.length) (hb : y.z.length * 8 ≤ 140737488351232) (w : World) (hy : Nums w y)
    (c1 : Calls Try.prog 16 #[y.v, .int .i64 x] w fun e w' => e = .returned (.tuple #[.int .i64 0, .int .i64 1]) ∧ Ext w w') : Calls Try.prog 6 #[y.v, .int .i64 x] w fun e w' => e = .returned (.bool true) ∧ Ext w w' := by
  have HY : Hid (∀ W, Ext w W → Nums W y) := fun W E => hy.ext E
  have HO : Hid (∀ W, Ext w W → OwnN w (W.alloc (.cells #[.int .i64 x] 3)) (.slice (some ⟨W.heap.size, 0, none⟩) 1 1) [(x : Int)]) := fun W E => own_one w W E x
  have HF : Hid (∀ (W : World) v, OwnN w W v ([(x : Int)] ++ y.z) → Calls Try.prog 10 #[v] W fun e w' => e = .returned (.int .i64 0) ∧ w' = W) := fun W v ho => by
    obtain ⟨m, rfl, hm, hn⟩ := ho.nums
    have := refCheck_any m W hn
    rw [hm, List.singleton_append, hX] at this
    exact this
  have hb2 : ([(x : Int)].length + y.z.length) * 8 ≤ 140737488355328 := by simp; omega
  have HB2 : Hid (([(x : Int)].length + y.z.length) * 8 ≤ 140737488355328) := hb2
  clear hb hb2 hy hX
  have HV0 : y.v = .slice y.a y.z.length y.c := rfl
  obtain ⟨ya, hya⟩ : ∃ a, y.a = a := ⟨_, rfl⟩
  obtain ⟨yc, hyc⟩ : ∃ a, y.c = a := ⟨_, rfl⟩
  obtain ⟨len, hlen⟩ : ∃ a, y.z.length = a := ⟨_, rfl⟩
  rw [hya, hyc, hlen] at HV0
  rw [HV0] at c1 ⊢
  have HV : Hid (y.v = .slice ya len yc) := HV0
  have hl2 : (64 : Int) < (len : Int) := by omega
  clear hl
  clear HV0 hya hyc hlen
  go_enter Try.func6, Try.ntmps6
  go_wp2_with fail
  refine c1.mono ?_
  rintro e w1 ⟨rfl, E1⟩
  have O1 : Hid (OwnN w (w1.alloc (.cells #[.int .i64 x] 3)) (.slice (some ⟨w1.heap.size, 0, none⟩) 1 1) [(x : Int)]) := HO.out w1 E1
  have Y1 : Hid (Nums (w1.alloc (.cells #[.int .i64 x] 3)) y) := HY.out _ (E1.alloc _)
  clear c1 E1 HO
  go_wp2_with (at_builtin; refine wpList_appendNums rfl _ _ rfl w _ (.slice (some ⟨w1.heap.size, 0, none⟩) 1 1) rfl [(x : Int)] O1.out y (by exact HV.out.symm) Y1.out HB2.out ?_; intro v2 w2 O2)
  have k2 := HF.out w2 v2 O2
  have E2 : Hid (Ext w w2) := O2.1
  clear HF O2 O1 Y1 HB2 HV HY
  go_wp2_with fail
  refine k2.mono ?_
  rintro e w' ⟨rfl, rfl⟩
  clear k2
  go_wp2
  go_ret
  exact ⟨rfl, E2.out⟩

theorem fieldAts_good (y : Nm) (x : Nat) (hx : x < 16) (l : List Nat) (hl : ∀ c ∈ l, c < 16) (hz : y.z = zl l) (hX : fe ((x : Int) :: y.z) = 0) (hm : y.z.length ≤ 64) (hb : y.z.length * 8 ≤ 140737488351232) (w : World) (hy : Nums w y)
    (c1 : Calls Try.prog 16 #[y.v, .int .i64 x] w fun e w' => e = .returned (.tuple #[.int .i64 (ev x l : Nat), .int .i64 0]) ∧ Ext w w') : Calls Try.prog 6 #[y.v, .int .i64 x] w fun e w' => e = .returned (.bool true) ∧ Ext w w' := by
  have HY : Hid (∀ W, Ext w W → Nums W y) := fun W E => hy.ext E
  have HO : Hid (∀ W, Ext w W → OwnN w (W.alloc (.cells #[.int .i64 x] 3)) (.slice (some ⟨W.heap.size, 0, none⟩) 1 1) [(x : Int)]) := fun W E => own_one w W E x
  have HF : Hid (∀ (W : World) v, OwnN w W v ([(x : Int)] ++ y.z) → Calls Try.prog 10 #[v] W fun e w' => e = .returned (.int .i64 0) ∧ w' = W) := fun W v ho => by
    obtain ⟨m, rfl, hm, hn⟩ := ho.nums
    have := refCheck_any m W hn
    rw [hm, List.singleton_append, hX] at this
    exact this
  have HW : Hid (∀ W, Nums W y → Calls Try.prog 17 #[y.v, .int .i64 x] W fun e w' => e = .returned (.int .i64 (ev x l : Nat)) ∧ w' = W) := fun W hW => by
    have := value_any l hl x hx y hz W hW
    rw [vl_zero hx hl] at this
    exact this
  clear hl hz
  have hb2 : ([(x : Int)].length + y.z.length) * 8 ≤ 140737488355328 := by simp; omega
  have HB2 : Hid (([(x : Int)].length + y.z.length) * 8 ≤ 140737488355328) := hb2
  clear hb hb2 hy hX
  have HV0 : y.v = .slice y.a y.z.length y.c := rfl
  generalize ev x l = R at *
  obtain ⟨ya, hya⟩ : ∃ a, y.a = a := ⟨_, rfl⟩
  obtain ⟨yc, hyc⟩ : ∃ a, y.c = a := ⟨_, rfl⟩
  obtain ⟨len, hlen⟩ : ∃ a, y.z.length = a := ⟨_, rfl⟩
  rw [hya, hyc, hlen] at HV0
  rw [HV0] at c1 ⊢
  have HV : Hid (y.v = .slice ya len yc) := HV0
  have HW2 : Hid (∀ W, Nums W y → Calls Try.prog 17 #[.slice ya len yc, .int .i64 x] W fun e w' => e = .returned (.int .i64 R) ∧ w' = W) := fun W hW => by rw [← HV0]; exact HW.out W hW
  clear HW
  have hl2 : ¬ (64 : Int) < (len : Int) := by omega
  clear HV0 hya hyc hlen
  go_enter Try.func6, Try.ntmps6
  go_wp2_with fail
  refine c1.mono ?_
  rintro e w1 ⟨rfl, E1⟩
  have O1 : Hid (OwnN w (w1.alloc (.cells #[.int .i64 x] 3)) (.slice (some ⟨w1.heap.size, 0, none⟩) 1 1) [(x : Int)]) := HO.out w1 E1
  have Y1 : Hid (Nums (w1.alloc (.cells #[.int .i64 x] 3)) y) := HY.out _ (E1.alloc _)
  clear c1 E1 HO
  go_wp2_with (at_builtin; refine wpList_appendNums rfl _ _ rfl w _ (.slice (some ⟨w1.heap.size, 0, none⟩) 1 1) rfl [(x : Int)] O1.out y (by exact HV.out.symm) Y1.out HB2.out ?_; intro v2 w2 O2)
  have k2 := HF.out w2 v2 O2
  have E2 : Hid (Ext w w2) := O2.1
  have k3 := HW2.out w2 (HY.out w2 E2.out)
  clear HW2
  clear HF O2 O1 Y1 HB2 HV HY
  go_wp2_with fail
  refine k2.mono ?_
  rintro e w' ⟨rfl, rfl⟩
  clear k2
  go_wp2_with fail
  refine k3.mono ?_
  rintro e w' ⟨rfl, rfl⟩
  clear k3
  go_wp2
  go_ret
  exact ⟨rfl, E2.out⟩

theorem fieldAts_walk (y : Nm) (hb : y.z.length * 8 ≤ 140737488351232) (x : Int) (w : World) (hy : Nums w y) : Calls Try.prog 6 #[y.v, .int .i64 x] w fun e w' => e = .returned (.bool true) ∧ Ext w w' := by
  have hc := fe_cons x y.z
  by_cases hx : fe [x] = 0
  · rw [if_pos hx] at hc
    have l1 := fe_zero hx x (by simp)
    obtain ⟨n, rfl⟩ : ∃ n : Nat, x = n := ⟨x.toNat, by omega⟩
    by_cases hz : fe y.z = 0
    · by_cases hl : 64 < y.z.length
      · exact fieldAts_large y n (hc.trans hz) hl hb w hy (At_large y n (by omega) hz hl w hy)
      · obtain ⟨l, e, hl16⟩ := zl_of (fe_zero hz)
        obtain ⟨zs, rfl⟩ := fin_of hl16
        have hm : zs.length = y.z.length := by rw [e]; simp
        exact fieldAts_good y n (by omega) (fl zs) hl16 e (hc.trans hz) (by omega) hb w hy (At_good zs (by omega) n (by omega) y e w hy)
    · exact fieldAts_bad y n _ hc hz hb w hy (At_l y n (by omega) hz w hy)
  · rw [if_neg hx] at hc
    have h4 : fe [x] = 4 := by rcases fe_or [x] with h | h; exact absurd h hx; exact h
    have c1 := At_x y x hx w
    rw [h4] at c1
    exact fieldAts_bad y x 4 hc (by decide) hb w hy c1

set_option maxRecDepth 100000 in
theorem fieldAts_lifted (os : Os) (started : os.Started) (H : Type) (enc : TypeId × Value → H) :
    ReturnsInHanded {} Try.checked os 6 .any (Rows.fieldAtsSpec.pre6 enc Try.prog Try.f6 Rows.fieldAtsRow.domain false) (Rows.fieldAtsSpec.post enc Try.prog Try.f6 false true false false) := by
  refine returnsInHanded_of_change_sized (C := Try.checked) own started (by kernel_rfl) Try.func6
    (ChangeSpec.witness6 (enc := enc) (C := Try.checked) false ⟨#[], #[.slice none 0 0, .int .i64 0], []⟩ 8 (by kernel_rfl) (by kernel_rfl) (by kernel_rfl) (by kernel_rfl)) ?_
  intro W base args ds gs before hval0 hW _ hsz0 _
  have hval : ∀ (j : Nat) t v, Try.f6.params[j]? = some t → args[j]? = some v → Value.okWide Try.prog W .any base t v := hval0
  have hW' := hW
  obtain ⟨p, q, hA0, hV, rfl, hfz, hnd⟩ := hW
  have hA : DataW.TrodAll enc Try.prog W 0 (fun _ => true) true Try.f6.params.toList args.toList ds p := hA0
  have hsz : (DataW.weightsEach Try.prog (Try.f6.params.toList ++ Rows.fieldAtsSpec.plain.varTypes Try.prog) (ds ++ gs)).all (· ≤ reachBytes) = true := hsz0
  rw [Try.params6] at hA hval hsz
  obtain ⟨v0, vs0, d0, ds0, p0, q0, hargs, rfl, rfl, h0, r0⟩ := trodAll_cons hA
  obtain ⟨v1, vs1, d1, ds1, p1, q1, rfl, rfl, rfl, h1, r1⟩ := trodAll_cons r0
  obtain ⟨rfl, rfl, rfl⟩ := trodAll_nil r1
  obtain rfl : args = #[v0, v1] := by cases args; simp_all
  obtain ⟨rfl, rfl⟩ := trodVars_none hV
  have lt0 : ∀ x ∈ p0, x.block < W.heap.size := by obtain ⟨m, hm⟩ := h0; exact DataW.trod_lt m _ _ _ hm
  obtain ⟨x0, rfl, w0, z0⟩ := open_syms_sized (hval 0 26 v0 rfl rfl) h0
  have b0 : x0.z.length * 8 ≤ reachBytes := by
    rcases z0 with z | ⟨es, sp, rfl, hes⟩
    · rw [z]; simp [reachBytes]
    · have := sized_slice hsz (j := 0) (t := 26) (e := 3) rfl rfl Try.underlying26
      rw [bytes3] at this
      omega
  have lt1 : ∀ x ∈ p1, x.block < W.heap.size := by obtain ⟨m, hm⟩ := h1; exact DataW.trod_lt m _ _ _ hm
  obtain ⟨x1, rfl, -, -, wf1⟩ := open_int Try.underlying3 (hval 1 3 v1 rfl rfl) h1
  clear hA0 hval0
  refine (fieldAts_walk x0 (by have := b0; simp only [reachBytes] at this; omega) x1 W w0).mono fun e W' ⟨he, bel⟩ => ?_
  subst he
  exact ⟨_, rfl, _, _, _, [], _, [], hW', trodAll_mk1 (shut_bool Try.underlying4 _), (trodAll_cons_mk (Below.trod laidOut (by kernel_rfl) (of_decide_eq_true (by kernel_rfl)) h0 bel lt0) (trodAll_cons_mk (Below.trod laidOut (by kernel_rfl) (of_decide_eq_true (by kernel_rfl)) h1 bel lt1) trodAll_mk0)), rfl, bel.frame _, fun h => by cases h⟩

theorem fieldAts_holds : Rows.FieldAtsSaid :=
  OpenClaim.holds_of_wide 6 Try.f6 rfl rfl rfl rfl rfl rfl rfl ⟨rfl, rfl, rfl, rfl, rfl⟩ rfl rfl rfl rfl rfl (by kernel_rfl) Try.func6 (by kernel_rfl)
    (of_decide_eq_true (by kernel_rfl)) (by unfold Func.isWrapper; rw [if_neg (of_decide_eq_false (by kernel_rfl))]; exact ⟨rfl, rfl⟩)
    (fun os started H enc _ => fieldAts_lifted os started H enc)

#print axioms fieldAts_holds

end Go.Proofs.Ytllkfadghdnhhaa
