/-
  For any word: of all balls of one size each has as many words, and with all bits it has all: BallSize returns true for every two numbers and every word, and changes nothing.
-/
import Derived.Test.YtfcleenbhadfhaaOpen
import Derived.Test.YtfcleenbhadfhaaBl
namespace Go.Proofs.Ytfcleenbhadfhaa
open Go.ChangeShapes Go.WideShapes Go.ChangeAt Go.RowKit Go.Deep
set_option linter.unusedVariables false

theorem bsize_any (n r : Int) (w : World) : Calls Try.prog 14 #[.int .i64 n, .int .i64 r] w fun e w' => ∃ d f : Int, e = .returned (.tuple #[.int .i64 d, .int .i64 f]) ∧ w' = w := by
  by_cases h : cb n r [] = 0
  · obtain ⟨m, s, rfl, rfl, hm, hs, _⟩ := cb_zero h
    exact (bsize_good m s hm hs w).mono fun e w' ⟨h1, h2⟩ => ⟨_, _, h1, h2⟩
  · exact (bsize_bad n r h w).mono fun e w' ⟨h1, h2⟩ => ⟨_, _, h1, h2⟩

theorem ballSize_bad (n r : Int) (a : Nat) (ha : a < 4294967296) (h : cb n r [a] ≠ 0) (w : World) : Calls Try.prog 7 #[.int .i64 n, .int .u32 a, .int .i64 r] w fun e w' => e = .returned (.bool true) ∧ Ext w w' := by
  have c1 := ball_bad n r a ha h w
  have c2 : Hid (∀ W, Calls Try.prog 14 #[.int .i64 n, .int .i64 r] W fun e w' => ∃ d f : Int, e = .returned (.tuple #[.int .i64 d, .int .i64 f]) ∧ w' = W) := fun W => bsize_any n r W
  have c3 : Hid (∀ W : World, Calls Try.prog 17 #[.int .i64 n, .slice (some ⟨W.heap.size, 0, none⟩) 1 1] (W.alloc (.cells #[.int .u32 a] 22)) fun e w' => e = .returned (.bool (ce n [a] == 0)) ∧ Ext W w') := fun W =>
    (refBelow_any n [a] (by simp) (fun x hx => by simp at hx; omega) W.heap.size 1 _ (heap_alloc_new _ _)).mono fun e w' ⟨h1, h2⟩ => ⟨h1, by rw [h2]; exact (Ext.refl W).alloc _⟩
  have or : (ce n [a] == 0) = false ∨ ((ce n [a] == 0) = true ∧ (r < 0 ∨ n < r)) := by
    by_cases hc : ce n [a] = 0
    · refine Or.inr ⟨by rw [hc]; rfl, ?_⟩
      unfold cb at h
      rw [if_pos hc] at h
      by_cases d : 0 ≤ r ∧ r ≤ n
      · rw [if_pos d] at h; exact absurd rfl h
      · omega
    · exact Or.inl (by rw [beq_eq_false_iff_ne]; exact hc)
  have hz : (cb n r [a] != 0) = true := by rw [bne_iff_ne]; exact h
  clear h
  generalize cb n r [a] = X at *
  generalize (ce n [a] == 0) = Y at *
  go_enter Try.func7, Try.ntmps7
  go_wp2_with fail
  refine c1.mono ?_
  rintro e w1 ⟨rfl, h1⟩
  have E1 : Hid (Ext w w1) := h1
  clear c1 h1
  go_wp2_with fail
  refine (c2.out w1).mono ?_
  rintro e w2 ⟨d, f, rfl, rfl⟩
  clear c2
  go_wp2_with fail
  refine (c3.out w2).mono ?_
  rintro e w3 ⟨rfl, h3⟩
  have E3 : Hid (Ext w w3) := E1.out.trans h3
  clear c3 h3
  rcases or with rfl | ⟨rfl, or⟩
  · go_wp2
    go_ret
    exact ⟨ret_bool (by simp), E3.out⟩
  · by_cases h0 : r < 0
    · clear or
      go_wp2
      go_ret
      exact ⟨ret_bool (by simp), E3.out⟩
    · have h1 : n < r := or.resolve_left h0
      have h0' : 0 ≤ r := by omega
      clear or h0
      go_wp2
      go_ret
      exact ⟨ret_bool (by simp), E3.out⟩

theorem ballSize_good (n a r : Nat) (hn : n ≤ 12) (ha : a < 2 ^ n) (hr : r ≤ n) (w : World) : Calls Try.prog 7 #[.int .i64 n, .int .u32 a, .int .i64 r] w fun e w' => e = .returned (.bool true) ∧ Ext w w' := by
  have hM : 2 ^ n ≤ 2 ^ 12 := Nat.pow_le_pow_right (by omega) hn
  have c1 := ball_good n a r hn ha hr w
  have c2 : Hid (∀ W, Calls Try.prog 14 #[.int .i64 n, .int .i64 r] W fun e w' => e = .returned (.tuple #[.int .i64 (sz n (r + 1) : Nat), .int .i64 0]) ∧ w' = W) := fun W => bsize_good n r hn hr W
  have c3 : Hid (∀ W : World, Calls Try.prog 17 #[.int .i64 n, .slice (some ⟨W.heap.size, 0, none⟩) 1 1] (W.alloc (.cells #[.int .u32 a] 22)) fun e w' => e = .returned (.bool true) ∧ Ext W w') := fun W =>
    (refBelow_any n [a] (by simp) (fun x hx => by simp at hx; omega) W.heap.size 1 _ (heap_alloc_new _ _)).mono fun e w' ⟨h1, h2⟩ => ⟨by rw [h1, ce_good hn (fun x hx => by simp at hx; rw [hx]; exact ha)]; rfl, by rw [h2]; exact (Ext.refl W).alloc _⟩
  have len : Hid ((near a r (2 ^ n)).length = sz n (r + 1)) := near_many (by omega) ha
  have pos := sz_pos n r
  have few := sz_few (n := n) (r := r + 1) (by omega)
  have all : Hid (r = n → ((sz n (r + 1) : Nat) : Int) = (2 : Int) ^ n) := fun h => by rw [h, sz_all (by omega), Int.natCast_pow]; rfl
  have one : r = 0 → sz n (r + 1) = 1 := fun h => by rw [h, sz_one]
  have pz : Hid (wrap64 ((2 : Int) ^ n) = (2 : Int) ^ n) := by
    have e : (2 : Int) ^ n = ((2 ^ n : Nat) : Int) := by rw [Int.natCast_pow]; rfl
    show wrap64 ((2 : Int) ^ n) = (2 : Int) ^ n
    rw [e]
    exact IntWalk.wrap64_in _ (by omega)
  have S4 : sz n (r + 1) ≤ 4096 := by omega
  clear hM ha few
  generalize sz n (r + 1) = S at *
  go_enter Try.func7, Try.ntmps7
  go_wp2_with fail
  refine c1.mono ?_
  rintro e w1 ⟨v, rfl, h1⟩
  obtain ⟨xl, rfl, hxz, hxu⟩ := h1.us
  have E1 : Hid (Ext w w1) := h1.1
  have hl : xl.z.length = S := by rw [hxz]; exact len.out
  obtain ⟨xa, xc, xz⟩ := xl
  simp only [Um.v]
  simp only at hl
  rw [hl]
  clear c1 h1 hxz hxu hl len
  go_wp2_with fail
  refine (c2.out w1).mono ?_
  rintro e w2 ⟨rfl, rfl⟩
  clear c2
  go_wp2_with fail
  refine (c3.out w2).mono ?_
  rintro e w3 ⟨rfl, h3⟩
  have E3 : Hid (Ext w w3) := E1.out.trans h3
  clear c3 h3 E1
  have p1 : (1 : Int) ≤ (S : Int) := by omega
  have hrz : (r : Int) ≤ (n : Int) := by omega
  by_cases hrn : r < n
  · have hrnz : (r : Int) < (n : Int) := by omega
    clear all pz
    by_cases h0 : r = 0
    · have e1 := one h0
      subst h0
      subst e1
      clear one
      go_wp2
      go_ret
      exact ⟨ret_bool (by simp), E3.out⟩
    · have h0z : (r : Int) > 0 := by omega
      clear one
      go_wp2
      go_ret
      exact ⟨ret_bool (by simp), E3.out⟩
  · have hrnz : ¬ (r : Int) < (n : Int) := by omega
    have e2 := all.out (by omega)
    have pz' := pz.out
    have pz2 : wrap64 ((2 : Int) ^ n) = (S : Int) := by rw [pz', e2]
    clear pz pz' all e2
    by_cases h0 : r = 0
    · have e1 := one h0
      subst h0
      subst e1
      clear one
      go_wp2
      go_ret
      exact ⟨ret_bool (by simp), E3.out⟩
    · have h0z : (r : Int) > 0 := by omega
      clear one
      go_wp2
      go_ret
      exact ⟨ret_bool (by simp), E3.out⟩

theorem ballSize_int (n x r : Int) (hx : (Lit.int .u32 x).wf = true) (w : World) : Calls Try.prog 7 #[.int .i64 n, .int .u32 x, .int .i64 r] w fun e w' => e = .returned (.bool true) ∧ Ext w w' := by
  have h := u32_in hx
  obtain ⟨X, rfl⟩ : ∃ X : Nat, x = X := ⟨x.toNat, by omega⟩
  by_cases hc : cb n r [X] = 0
  · obtain ⟨m, s, rfl, rfl, hm, hs, hg⟩ := cb_zero hc
    exact ballSize_good m X s hm (hg X (by simp)) hs w
  · exact ballSize_bad n r X (by omega) hc w

set_option maxRecDepth 100000 in
theorem ballSize_lifted (os : Os) (started : os.Started) (H : Type) (enc : TypeId × Value → H) :
    ReturnsInHanded {} Try.checked os 7 .any (Rows.ballSizeSpec.pre6 enc Try.prog Try.f7 Rows.ballSizeRow.domain false) (Rows.ballSizeSpec.post enc Try.prog Try.f7 false true false false) := by
  refine returnsInHanded_of_change (C := Try.checked) own started (by kernel_rfl) Try.func7
    (ChangeSpec.witness6 (enc := enc) (C := Try.checked) false ⟨#[], #[.int .i64 0, .int .u32 0, .int .i64 0], []⟩ 8 (by kernel_rfl) (by kernel_rfl) (by kernel_rfl) (by kernel_rfl)) ?_
  intro W base args ds gs before hval0 hW _ _
  have hval : ∀ (j : Nat) t v, Try.f7.params[j]? = some t → args[j]? = some v → Value.okWide Try.prog W .any base t v := hval0
  have hW' := hW
  obtain ⟨p, q, hA0, hV, rfl, hfz, hnd⟩ := hW
  have hA : DataW.TrodAll enc Try.prog W 0 (fun _ => true) true Try.f7.params.toList args.toList ds p := hA0
  rw [Try.params7] at hA hval
  obtain ⟨v0, vs0, d0, ds0, p0, q0, hargs, rfl, rfl, h0, r0⟩ := trodAll_cons hA
  obtain ⟨v1, vs1, d1, ds1, p1, q1, rfl, rfl, rfl, h1, r1⟩ := trodAll_cons r0
  obtain ⟨v2, vs2, d2, ds2, p2, q2, rfl, rfl, rfl, h2, r2⟩ := trodAll_cons r1
  obtain ⟨rfl, rfl, rfl⟩ := trodAll_nil r2
  obtain rfl : args = #[v0, v1, v2] := by cases args; simp_all
  obtain ⟨rfl, rfl⟩ := trodVars_none hV
  have lt0 : ∀ x ∈ p0, x.block < W.heap.size := by obtain ⟨m, hm⟩ := h0; exact DataW.trod_lt m _ _ _ hm
  obtain ⟨x0, rfl, -, -, wf0⟩ := open_int Try.underlying3 (hval 0 3 v0 rfl rfl) h0
  have lt1 : ∀ x ∈ p1, x.block < W.heap.size := by obtain ⟨m, hm⟩ := h1; exact DataW.trod_lt m _ _ _ hm
  obtain ⟨x1, rfl, -, -, wf1⟩ := open_int Try.underlying22 (hval 1 22 v1 rfl rfl) h1
  have lt2 : ∀ x ∈ p2, x.block < W.heap.size := by obtain ⟨m, hm⟩ := h2; exact DataW.trod_lt m _ _ _ hm
  obtain ⟨x2, rfl, -, -, wf2⟩ := open_int Try.underlying3 (hval 2 3 v2 rfl rfl) h2
  clear hA0 hval0
  refine (ballSize_int x0 x1 x2 wf1 W).mono fun e W' ⟨he, bel⟩ => ?_
  subst he
  exact ⟨_, rfl, _, _, _, [], _, [], hW', trodAll_mk1 (shut_bool Try.underlying4 _), (trodAll_cons_mk (Below.trod laidOut (by kernel_rfl) (of_decide_eq_true (by kernel_rfl)) h0 bel lt0) (trodAll_cons_mk (Below.trod laidOut (by kernel_rfl) (of_decide_eq_true (by kernel_rfl)) h1 bel lt1) (trodAll_cons_mk (Below.trod laidOut (by kernel_rfl) (of_decide_eq_true (by kernel_rfl)) h2 bel lt2) trodAll_mk0))), rfl, bel.frame _, fun h => by cases h⟩

theorem ballSize_holds : Rows.BallSizeSaid :=
  OpenClaim.holds_of_wide 7 Try.f7 rfl rfl rfl rfl rfl rfl rfl ⟨rfl, rfl, rfl, rfl, rfl⟩ rfl rfl rfl rfl rfl (by kernel_rfl) Try.func7 (by kernel_rfl)
    (of_decide_eq_true (by kernel_rfl)) (by unfold Func.isWrapper; rw [if_neg (of_decide_eq_false (by kernel_rfl))]; exact ⟨rfl, rfl⟩)
    (fun os started H enc _ => ballSize_lifted os started H enc)

#print axioms ballSize_holds

end Go.Proofs.Ytfcleenbhadfhaa
