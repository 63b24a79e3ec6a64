/-
  GRAY: for any word the program tells its place: GrayPlaces returns true for every number and every word, and changes nothing.
-/
import Derived.Test.YtioaohcnlgbnnaaOpen
import Derived.Test.YtioaohcnlgbnnaaGl
import Derived.Test.YtioaohcnlgbnnaaCp
import Derived.ProofKit
namespace Go.Proofs.Ytioaohcnlgbnnaa
open Go.ChangeShapes Go.WideShapes Go.ChangeAt Go.RowKit Go.Deep
set_option linter.unusedVariables false

set_option maxRecDepth 100000 in
theorem grayPlaces_bad (n : Int) (i : Nat) (hi : i < 4294967296) (h : ce n [i] ≠ 0) (w : World) :
    Calls Try.prog 4 #[.int .i64 n, .int .u32 i] w fun e w' => e = .returned (.bool true) ∧ Ext w w' := by
  have c1 := place_any n i hi w
  have c2 : Hid (∀ W : World, Calls Try.prog 9 #[.int .i64 n, .slice (some ⟨W.heap.size, 0, none⟩) 1 1] (W.alloc (.cells #[.int .u32 i] 22)) fun e w' => e = .returned (.int .i64 (ce n [i])) ∧ w' = W.alloc (.cells #[.int .u32 i] 22)) := fun W => ref_one n i hi W
  rw [if_neg h] at c1
  have hc := ce_bad h
  clear h
  generalize ce n [i] = c at *
  rcases hc with rfl | rfl
  all_goals
    go_enter Try.func4, Try.ntmps4
    go_wp2_with fail
    refine c1.mono ?_
    rintro e w1 ⟨rfl, E1⟩
    have X1 : Hid (Ext w (w1.alloc (.cells #[.int .u32 i] 22))) := E1.alloc _
    have c3 := c2.out w1
    clear c1 c2 E1
    go_wp2_with fail
    refine c3.mono ?_
    rintro e w2 ⟨rfl, rfl⟩
    clear c3
    go_wp2
    go_ret
    exact ⟨ret_bool (by simp), X1.out⟩

set_option maxRecDepth 100000 in
theorem grayPlaces_good (n i : Nat) (hn : n ≤ 12) (hi : i < 2 ^ n) (w : World) :
    Calls Try.prog 4 #[.int .i64 n, .int .u32 i] w fun e w' => e = .returned (.bool true) ∧ Ext w w' := by
  have hM : 2 ^ n ≤ 2 ^ 12 := Nat.pow_le_pow_right (by omega) hn
  have h : ce (n : Int) [i] = 0 := ce_good hn (fun x hx => by rw [List.mem_singleton.1 hx]; exact hi)
  have c1 := place_any n i (by omega) w
  have c2 : Hid (∀ W : World, Calls Try.prog 9 #[.int .i64 n, .slice (some ⟨W.heap.size, 0, none⟩) 1 1] (W.alloc (.cells #[.int .u32 i] 22)) fun e w' => e = .returned (.int .i64 (ce n [i])) ∧ w' = W.alloc (.cells #[.int .u32 i] 22)) := fun W => ref_one n i (by omega) W
  have C4 : Hid (∀ W : World, Calls Try.prog 10 #[.int .i64 n] W fun e w' => ∃ b o c, e = .returned (.slice (some ⟨b, o, none⟩) (2 ^ n) c) ∧ (∀ i, i < 2 ^ n → w'.cell? ⟨b, o + i, none⟩ = some (.int .u32 (gr i : Nat))) ∧ Ext W w') := fun W => grays_at n hn W
  rw [if_pos h] at c1
  rw [h] at c1 c2
  clear h
  have hpl := pl_lt hi
  have hpg : gr (pl i) = i := pl_gr (by omega)
  have hiz : (pl i : Int) < ((2 ^ n : Nat) : Int) := by omega
  have pw : (2 : Int) ^ n % 4294967296 = ((2 ^ n : Nat) : Int) := pow_in n (by omega)
  generalize 2 ^ n = M at *
  have G : Hid (∀ (w' : World) b o, (∀ i, i < M → w'.cell? ⟨b, o + i, none⟩ = some (.int .u32 (gr i : Nat))) → w'.cell? ⟨b, o + pl i, none⟩ = some (.int .u32 (i : Nat))) := fun w' b o h => by rw [h _ hpl, hpg]
  clear hpg
  generalize pl i = y at *
  go_enter Try.func4, Try.ntmps4
  go_wp2_with fail
  refine c1.mono ?_
  rintro e w1 ⟨rfl, E1⟩
  have X1 : Hid (Ext w (w1.alloc (.cells #[.int .u32 i] 22))) := E1.alloc _
  have c3 := c2.out w1
  clear c1 c2 E1
  go_wp2_with fail
  refine c3.mono ?_
  rintro e w2 ⟨rfl, rfl⟩
  have c4 := C4.out (w1.alloc (.cells #[.int .u32 i] 22))
  clear c3 C4
  go_wp2_with fail
  refine c4.mono ?_
  rintro e w3 ⟨b, o, c, rfl, hc, E3⟩
  have e3 := G.out _ _ _ hc
  have X3 : Hid (Ext w w3) := X1.out.trans E3
  clear c4 hc E3 X1 G
  go_wp2
  go_ret
  exact ⟨ret_bool (by simp), X3.out⟩

theorem grayPlaces_walk (n : Int) (i : Int) (hw : (Lit.int .u32 i).wf = true) (w : World) :
    Calls Try.prog 4 #[.int .i64 n, .int .u32 i] w fun e w' => e = .returned (.bool true) ∧ Ext w w' := by
  have hi : 0 ≤ i ∧ i < 4294967296 := u32_in hw
  obtain ⟨m, rfl⟩ : ∃ m : Nat, i = m := ⟨i.toNat, by omega⟩
  by_cases h : ce n [m] = 0
  · obtain ⟨k, rfl, hk, hg⟩ := ce_zero h
    exact grayPlaces_good k m hk (hg m (by simp)) w
  · exact grayPlaces_bad n m (by omega) h w

set_option maxRecDepth 100000 in
theorem grayPlaces_lifted (os : Os) (started : os.Started) (H : Type) (enc : TypeId × Value → H) :
    ReturnsInHanded {} Try.checked os 4 .any (Rows.grayPlacesSpec.pre6 enc Try.prog Try.f4 Rows.grayPlacesRow.domain false) (Rows.grayPlacesSpec.post enc Try.prog Try.f4 false true false false) := by
  refine returnsInHanded_of_change (C := Try.checked) own started (by kernel_rfl) Try.func4
    (ChangeSpec.witness6 (enc := enc) (C := Try.checked) false ⟨#[], #[.int .i64 0, .int .u32 0], []⟩ 8 (by kernel_rfl) (by kernel_rfl) (by kernel_rfl) (by kernel_rfl)) ?_
  intro W base args ds gs before hval0 hW _ _
  have hval : ∀ (j : Nat) t v, Try.f4.params[j]? = some t → args[j]? = some v → Value.okWide Try.prog W .any base t v := hval0
  have hW' := hW
  obtain ⟨p, q, hA0, hV, rfl, hfz, hnd⟩ := hW
  have hA : DataW.TrodAll enc Try.prog W 0 (fun _ => true) true Try.f4.params.toList args.toList ds p := hA0
  rw [Try.params4] at hA hval
  obtain ⟨v0, vs0, d0, ds0, p0, q0, hargs, rfl, rfl, h0, r0⟩ := trodAll_cons hA
  obtain ⟨v1, vs1, d1, ds1, p1, q1, rfl, rfl, rfl, h1, r1⟩ := trodAll_cons r0
  obtain ⟨rfl, rfl, rfl⟩ := trodAll_nil r1
  obtain rfl : args = #[v0, v1] := by cases args; simp_all
  obtain ⟨rfl, rfl⟩ := trodVars_none hV
  have lt0 : ∀ x ∈ p0, x.block < W.heap.size := by obtain ⟨m, hm⟩ := h0; exact DataW.trod_lt m _ _ _ hm
  obtain ⟨x0, rfl, -, -, wf0⟩ := open_int Try.underlying3 (hval 0 3 v0 rfl rfl) h0
  have lt1 : ∀ x ∈ p1, x.block < W.heap.size := by obtain ⟨m, hm⟩ := h1; exact DataW.trod_lt m _ _ _ hm
  obtain ⟨x1, rfl, -, -, wf1⟩ := open_int Try.underlying22 (hval 1 22 v1 rfl rfl) h1
  clear hA0 hval0
  refine (grayPlaces_walk x0 x1 wf1 W).mono fun e W' ⟨he, bel⟩ => ?_
  subst he
  exact ⟨_, rfl, _, _, _, [], _, [], hW', trodAll_mk1 (shut_bool Try.underlying4 _), (trodAll_cons_mk (Below.trod laidOut (by kernel_rfl) (of_decide_eq_true (by kernel_rfl)) h0 bel lt0) (trodAll_cons_mk (Below.trod laidOut (by kernel_rfl) (of_decide_eq_true (by kernel_rfl)) h1 bel lt1) trodAll_mk0)), rfl, bel.frame _, fun h => by cases h⟩

theorem grayPlaces_holds : Rows.GrayPlacesSaid :=
  OpenClaim.holds_of_wide 4 Try.f4 rfl rfl rfl rfl rfl rfl rfl ⟨rfl, rfl, rfl, rfl, rfl⟩ rfl rfl rfl rfl rfl (by kernel_rfl) Try.func4 (by kernel_rfl)
    (of_decide_eq_true (by kernel_rfl)) (by unfold Func.isWrapper; rw [if_neg (of_decide_eq_false (by kernel_rfl))]; exact ⟨rfl, rfl⟩)
    (fun os started H enc _ => grayPlaces_lifted os started H enc)

#print axioms grayPlaces_holds

end Go.Proofs.Ytioaohcnlgbnnaa
