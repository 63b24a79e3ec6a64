/-
  For any word: it is that which is so many-th, and of two with as many set bits the lesser one comes first: RankBack returns true for every number and every two words, and changes nothing.
-/
import Derived.Test.YtencpkmojjbjcaaOpen
import Derived.Test.YtencpkmojjbjcaaBc
namespace Go.Proofs.Ytencpkmojjbjcaa
open Go.ChangeShapes Go.WideShapes Go.ChangeAt Go.RowKit Go.Deep
set_option linter.unusedVariables false

theorem rankBack_bad (n : Int) (x y : Nat) (hx : x < 4294967296) (hy : y < 4294967296) (hm : be2 n x y ≠ 0) (w : World) : Calls Try.prog 8 #[.int .i64 n, .int .u32 x, .int .u32 y] w fun e w' => e = .returned (.bool true) ∧ Ext w w' := by
  have c1 := rank_any n x hx w
  have c2 : Hid (∀ W, Calls Try.prog 12 #[.int .i64 n, .int .u32 y] W fun e w' => ∃ r : Int, e = .returned (.tuple #[.int .i64 r, .int .i64 (rer n y)]) ∧ Ext W w') := fun W => rank_any n y hy W
  have c3 : Hid (∀ W : World, Calls Try.prog 23 #[.int .i64 n, .slice (some ⟨W.heap.size, 0, none⟩) 2 2] (W.alloc (.cells #[.int .u32 x, .int .u32 y] 27)) fun e w' => e = .returned (.bool false) ∧ Ext W w') := fun W => by
    have := below_any n x y hx hy W
    rw [show (be2 n x y == 0) = false by rw [beq_eq_false_iff_ne]; exact hm] at this
    exact this
  have or : rer n x ≠ 0 ∨ rer n y ≠ 0 := by
    unfold be2 at hm
    unfold rer
    by_cases c : 0 ≤ n ∧ n ≤ 12
    · rw [if_pos c] at hm
      rw [if_pos c, if_pos c]
      by_cases d : x < 2 ^ n.toNat
      · by_cases e : y < 2 ^ n.toNat
        · rw [if_pos ⟨d, e⟩] at hm; exact absurd rfl hm
        · rw [if_neg e]; exact Or.inr (by decide)
      · rw [if_neg d]; exact Or.inl (by decide)
    · rw [if_neg c]; exact Or.inl (by decide)
  clear hm
  generalize rer n x = E at *
  generalize rer n y = F at *
  go_enter Try.func8, Try.ntmps8
  go_wp2_with fail
  refine c1.mono ?_
  rintro e w1 ⟨r1, rfl, h1⟩
  have E1 : Hid (Ext w w1) := h1
  clear c1 h1
  go_wp2_with fail
  refine (c2.out w1).mono ?_
  rintro e w2 ⟨r2, rfl, h2⟩
  have E2 : Hid (Ext w w2) := E1.out.trans h2
  clear c2 h2
  go_wp2_with fail
  refine (c3.out w2).mono ?_
  rintro e w3 ⟨rfl, h3⟩
  have E3 : Hid (Ext w w3) := E2.out.trans h3
  clear c3 h3
  by_cases hE : E = 0
  · have hF : (F != 0) = true := by rw [bne_iff_ne]; exact or.resolve_left (fun h => h hE)
    subst hE
    go_wp2
    go_ret
    exact ⟨ret_bool (by simp), E3.out⟩
  · have hE' : (E != 0) = true := by rw [bne_iff_ne]; exact hE
    go_wp2
    go_ret
    exact ⟨ret_bool (by simp), E3.out⟩

theorem rankBack_walk (n : Int) (x y : Nat) (hx : x < 4294967296) (hy : y < 4294967296) (w : World) : Calls Try.prog 8 #[.int .i64 n, .int .u32 x, .int .u32 y] w fun e w' => e = .returned (.bool true) ∧ Ext w w' := by
  by_cases hm : be2 n x y = 0
  · have hh : 0 ≤ n ∧ n ≤ 12 ∧ x < 2 ^ n.toNat ∧ y < 2 ^ n.toNat := by
      unfold be2 at hm
      by_cases c : 0 ≤ n ∧ n ≤ 12
      · rw [if_pos c] at hm
        by_cases d : x < 2 ^ n.toNat ∧ y < 2 ^ n.toNat
        · exact ⟨c.1, c.2, d⟩
        · rw [if_neg d] at hm; omega
      · rw [if_neg c] at hm; omega
    obtain ⟨N, rfl⟩ : ∃ N : Nat, n = N := ⟨n.toNat, by omega⟩
    rw [Int.toNat_natCast] at hh
    obtain ⟨_, hN, hx2, hy2⟩ := hh
    have c1 := rank_good N x (by omega) hx2 w
    have c2 : Hid (∀ W, Calls Try.prog 12 #[.int .i64 N, .int .u32 y] W fun e w' => e = .returned (.tuple #[.int .i64 (cnt (pop y) y : Nat), .int .i64 0]) ∧ Ext W w') := fun W => rank_good N y (by omega) hy2 W
    have c3 : Hid (∀ W : World, Calls Try.prog 23 #[.int .i64 N, .slice (some ⟨W.heap.size, 0, none⟩) 2 2] (W.alloc (.cells #[.int .u32 x, .int .u32 y] 27)) fun e w' => e = .returned (.bool true) ∧ Ext W w') := fun W => by
      have := below_any N x y hx hy W
      rw [hm] at this
      exact this
    have c4 : Hid (∀ W, Calls Try.prog 14 #[.int .u32 x] W fun e w' => e = .returned (.int .i64 (pop x : Nat)) ∧ w' = W) := fun W => size_any x hx W
    have c5 : Hid (∀ W, Calls Try.prog 15 #[.int .i64 N, .int .i64 (pop x : Nat), .int .i64 (cnt (pop x) x : Nat)] W fun e w' => e = .returned (.tuple #[.int .u32 x, .int .i64 0]) ∧ w' = W) := fun W => by
      have := word_good N (pop x) (cnt (pop x) x) (by omega) (pop_le hx2 (by omega)) (by rw [← cnt_all N _ (by omega)]; exact cnt_less hx2 rfl) W
      rw [wordOf_of (by omega) hx2] at this
      exact this
    have c6 : Hid (∀ W, Calls Try.prog 14 #[.int .u32 y] W fun e w' => e = .returned (.int .i64 (pop y : Nat)) ∧ w' = W) := fun W => size_any y hy W
    have fin : Hid (pop x = pop y → (cnt (pop x) x < cnt (pop y) y ↔ x < y)) := fun h => by
      rw [← h]
      exact cnt_lt_iff rfl
    clear hm hx2 hy2
    generalize cnt (pop x) x = A at *
    generalize cnt (pop y) y = B at *
    generalize pop x = p at *
    generalize pop y = q at *
    go_enter Try.func8, Try.ntmps8
    go_wp2_with fail
    refine c1.mono ?_
    rintro e w1 ⟨rfl, h1⟩
    have E1 : Hid (Ext w w1) := h1
    clear c1 h1
    go_wp2_with fail
    refine (c2.out w1).mono ?_
    rintro e w2 ⟨rfl, h2⟩
    have E2 : Hid (Ext w w2) := E1.out.trans h2
    clear c2 h2
    go_wp2_with fail
    refine (c3.out w2).mono ?_
    rintro e w3 ⟨rfl, h3⟩
    have E3 : Hid (Ext w w3) := E2.out.trans h3
    clear c3 h3
    go_wp2_with fail
    refine (c4.out w3).mono ?_
    rintro e w4 ⟨rfl, rfl⟩
    go_wp2_with fail
    refine (c5.out w4).mono ?_
    rintro e w5 ⟨rfl, rfl⟩
    clear c5
    go_wp2_with fail
    refine (c4.out w5).mono ?_
    rintro e w6 ⟨rfl, rfl⟩
    clear c4
    go_wp2_with fail
    refine (c6.out w6).mono ?_
    rintro e w7 ⟨rfl, rfl⟩
    clear c6
    by_cases hp : p = q
    · subst hp
      have f := fin.out rfl
      clear fin
      go_wp2
      go_ret
      exact ⟨ret_bool (by simp), E3.out⟩
    · have hpz : ((p : Int) != (q : Int)) = true := by rw [bne_iff_ne]; omega
      clear fin
      go_wp2
      go_ret
      exact ⟨ret_bool (by simp), E3.out⟩
  · exact rankBack_bad n x y hx hy hm w

theorem rankBack_int (n x y : Int) (hx : (Lit.int .u32 x).wf = true) (hy : (Lit.int .u32 y).wf = true) (w : World) : Calls Try.prog 8 #[.int .i64 n, .int .u32 x, .int .u32 y] w fun e w' => e = .returned (.bool true) ∧ Ext w w' := by
  have h := u32_in hx
  have h' := u32_in hy
  obtain ⟨X, rfl⟩ : ∃ X : Nat, x = X := ⟨x.toNat, by omega⟩
  obtain ⟨Y, rfl⟩ : ∃ Y : Nat, y = Y := ⟨y.toNat, by omega⟩
  exact rankBack_walk n X Y (by omega) (by omega) w

set_option maxRecDepth 100000 in
theorem rankBack_lifted (os : Os) (started : os.Started) (H : Type) (enc : TypeId × Value → H) :
    ReturnsInHanded {} Try.checked os 8 .any (Rows.rankBackSpec.pre6 enc Try.prog Try.f8 Rows.rankBackRow.domain false) (Rows.rankBackSpec.post enc Try.prog Try.f8 false true false false) := by
  refine returnsInHanded_of_change (C := Try.checked) own started (by kernel_rfl) Try.func8
    (ChangeSpec.witness6 (enc := enc) (C := Try.checked) false ⟨#[], #[.int .i64 0, .int .u32 0, .int .u32 0], []⟩ 8 (by kernel_rfl) (by kernel_rfl) (by kernel_rfl) (by kernel_rfl)) ?_
  intro W base args ds gs before hval0 hW _ _
  have hval : ∀ (j : Nat) t v, Try.f8.params[j]? = some t → args[j]? = some v → Value.okWide Try.prog W .any base t v := hval0
  have hW' := hW
  obtain ⟨p, q, hA0, hV, rfl, hfz, hnd⟩ := hW
  have hA : DataW.TrodAll enc Try.prog W 0 (fun _ => true) true Try.f8.params.toList args.toList ds p := hA0
  rw [Try.params8] at hA hval
  obtain ⟨v0, vs0, d0, ds0, p0, q0, hargs, rfl, rfl, h0, r0⟩ := trodAll_cons hA
  obtain ⟨v1, vs1, d1, ds1, p1, q1, rfl, rfl, rfl, h1, r1⟩ := trodAll_cons r0
  obtain ⟨v2, vs2, d2, ds2, p2, q2, rfl, rfl, rfl, h2, r2⟩ := trodAll_cons r1
  obtain ⟨rfl, rfl, rfl⟩ := trodAll_nil r2
  obtain rfl : args = #[v0, v1, v2] := by cases args; simp_all
  obtain ⟨rfl, rfl⟩ := trodVars_none hV
  have lt0 : ∀ x ∈ p0, x.block < W.heap.size := by obtain ⟨m, hm⟩ := h0; exact DataW.trod_lt m _ _ _ hm
  obtain ⟨x0, rfl, -, -, wf0⟩ := open_int Try.underlying3 (hval 0 3 v0 rfl rfl) h0
  have lt1 : ∀ x ∈ p1, x.block < W.heap.size := by obtain ⟨m, hm⟩ := h1; exact DataW.trod_lt m _ _ _ hm
  obtain ⟨x1, rfl, -, -, wf1⟩ := open_int Try.underlying27 (hval 1 27 v1 rfl rfl) h1
  have lt2 : ∀ x ∈ p2, x.block < W.heap.size := by obtain ⟨m, hm⟩ := h2; exact DataW.trod_lt m _ _ _ hm
  obtain ⟨x2, rfl, -, -, wf2⟩ := open_int Try.underlying27 (hval 2 27 v2 rfl rfl) h2
  clear hA0 hval0
  refine (rankBack_int x0 x1 x2 wf1 wf2 W).mono fun e W' ⟨he, bel⟩ => ?_
  subst he
  exact ⟨_, rfl, _, _, _, [], _, [], hW', trodAll_mk1 (shut_bool Try.underlying4 _), (trodAll_cons_mk (Below.trod laidOut (by kernel_rfl) (of_decide_eq_true (by kernel_rfl)) h0 bel lt0) (trodAll_cons_mk (Below.trod laidOut (by kernel_rfl) (of_decide_eq_true (by kernel_rfl)) h1 bel lt1) (trodAll_cons_mk (Below.trod laidOut (by kernel_rfl) (of_decide_eq_true (by kernel_rfl)) h2 bel lt2) trodAll_mk0))), rfl, bel.frame _, fun h => by cases h⟩

theorem rankBack_holds : Rows.RankBackSaid :=
  OpenClaim.holds_of_wide 8 Try.f8 rfl rfl rfl rfl rfl rfl rfl ⟨rfl, rfl, rfl, rfl, rfl⟩ rfl rfl rfl rfl rfl (by kernel_rfl) Try.func8 (by kernel_rfl)
    (of_decide_eq_true (by kernel_rfl)) (by unfold Func.isWrapper; rw [if_neg (of_decide_eq_false (by kernel_rfl))]; exact ⟨rfl, rfl⟩)
    (fun os started H enc _ => rankBack_lifted os started H enc)

#print axioms rankBack_holds

end Go.Proofs.Ytencpkmojjbjcaa
