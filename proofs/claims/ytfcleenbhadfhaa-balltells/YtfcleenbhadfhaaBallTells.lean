/-
  For any word and any number: ball.Ball tells all words that are no farther, rising: BallTells returns true for every two numbers and every word, and changes nothing.
-/
import Derived.Test.YtfcleenbhadfhaaOpen
import Derived.Test.YtfcleenbhadfhaaBl
import Derived.Test.YtfcleenbhadfhaaWo
namespace Go.Proofs.Ytfcleenbhadfhaa
open Go.ChangeShapes Go.WideShapes Go.ChangeAt Go.RowKit Go.Deep
set_option linter.unusedVariables false

theorem ballTells_bad (n r : Int) (a : Nat) (ha : a < 4294967296) (h : cb n r [a] ≠ 0) (w : World) : Calls Try.prog 4 #[.int .i64 n, .int .u32 a, .int .i64 r] w fun e w' => e = .returned (.bool true) ∧ Ext w w' := by
  have c1 := ball_bad n r a ha h w
  have c2 : Hid (∀ W : World, Calls Try.prog 10 #[.int .i64 n, .slice (some ⟨W.heap.size, 0, none⟩) 1 1] (W.alloc (.cells #[.int .u32 a] 22)) fun e w' => e = .returned (.int .i64 (ce n [a])) ∧ Ext W w') := fun W =>
    (refBits_any n [a] (by simp) (fun x hx => by simp at hx; omega) W.heap.size 1 _ (heap_alloc_new _ _)).mono fun e w' ⟨h1, h2⟩ => ⟨h1, by rw [h2]; exact (Ext.refl W).alloc _⟩
  by_cases hc : ce n [a] = 0
  · have e4 : cb n r [a] = 4 ∧ (r < 0 ∨ n < r) := by
      unfold cb at h ⊢
      rw [if_pos hc] at h ⊢
      by_cases d : 0 ≤ r ∧ r ≤ n
      · rw [if_pos d] at h; exact absurd rfl h
      · rw [if_neg d]; exact ⟨rfl, by omega⟩
    rw [e4.1] at c1
    rw [hc] at c2
    have or := e4.2
    clear e4 h hc
    by_cases h0 : r < 0
    · clear or
      go_enter Try.func4, Try.ntmps4
      go_wp2_with fail
      refine c1.mono ?_
      rintro e w1 ⟨rfl, h1⟩
      have E1 : Hid (Ext w w1) := h1
      clear c1 h1
      go_wp2_with fail
      refine (c2.out w1).mono ?_
      rintro e w2 ⟨rfl, h2⟩
      have E2 : Hid (Ext w w2) := E1.out.trans h2
      clear c2 h2
      go_wp2
      go_ret
      exact ⟨ret_bool (by simp), E2.out⟩
    · have h1 : n < r := or.resolve_left h0
      have h0' : 0 ≤ r := by omega
      clear or h0
      go_enter Try.func4, Try.ntmps4
      go_wp2_with fail
      refine c1.mono ?_
      rintro e w1 ⟨rfl, h1'⟩
      have E1 : Hid (Ext w w1) := h1'
      clear c1 h1'
      go_wp2_with fail
      refine (c2.out w1).mono ?_
      rintro e w2 ⟨rfl, h2⟩
      have E2 : Hid (Ext w w2) := E1.out.trans h2
      clear c2 h2
      go_wp2
      go_ret
      exact ⟨ret_bool (by simp), E2.out⟩
  · have e4 : cb n r [a] = ce n [a] := if_neg hc
    rw [e4] at c1
    have hz : (ce n [a] != 0) = true := by rw [bne_iff_ne]; exact hc
    have hz' : (ce n [a] == 0) = false := by rw [beq_eq_false_iff_ne]; exact hc
    clear e4 h hc
    generalize ce n [a] = X at *
    go_enter Try.func4, Try.ntmps4
    go_wp2_with fail
    refine c1.mono ?_
    rintro e w1 ⟨rfl, h1⟩
    have E1 : Hid (Ext w w1) := h1
    clear c1 h1
    go_wp2_with fail
    refine (c2.out w1).mono ?_
    rintro e w2 ⟨rfl, h2⟩
    have E2 : Hid (Ext w w2) := E1.out.trans h2
    clear c2 h2
    go_wp2
    go_ret
    exact ⟨ret_bool (by simp), E2.out⟩

theorem ballTells_good (n a r : Nat) (hn : n ≤ 12) (ha : a < 2 ^ n) (hr : r ≤ n) (w : World) : Calls Try.prog 4 #[.int .i64 n, .int .u32 a, .int .i64 r] w fun e w' => e = .returned (.bool true) ∧ Ext w w' := by
  have hM : 2 ^ n ≤ 2 ^ 12 := Nat.pow_le_pow_right (by omega) hn
  have pw : (2 : Int) ^ n % 4294967296 = ((2 ^ n : Nat) : Int) := pow_in n (by omega)
  have c1 := ball_good n a r hn ha hr w
  have c2 : Hid (∀ W : World, Calls Try.prog 10 #[.int .i64 n, .slice (some ⟨W.heap.size, 0, none⟩) 1 1] (W.alloc (.cells #[.int .u32 a] 22)) fun e w' => e = .returned (.int .i64 0) ∧ Ext W w') := fun W =>
    (refBits_any n [a] (by simp) (fun x hx => by simp at hx; omega) W.heap.size 1 _ (heap_alloc_new _ _)).mono fun e w' ⟨h1, h2⟩ => ⟨by rw [h1, ce_good hn (fun x hx => by simp at hx; rw [hx]; exact ha)], by rw [h2]; exact (Ext.refl W).alloc _⟩
  have AP : Hid (∀ (x : Nat) W, x < 4096 → Calls Try.prog 11 #[.int .u32 a, .int .u32 x] W fun e w' => e = .returned (.int .i64 (far a x : Nat)) ∧ w' = W) := fun x W hx => refApart_any a x (by omega) (by omega) W
  have WO : Hid (∀ (x y : Um) W, Us W x → Us W y → Calls Try.prog 13 #[x.v, y.v] W fun e w' => e = .returned (.bool (x.z == y.z)) ∧ Qt W w') := fun x y W hx hy => words_any x y W hx hy
  have hrz : ¬ n < r := by omega
  clear ha
  generalize 2 ^ n = M at *
  go_enter Try.func4, Try.ntmps4
  go_wp2_with fail
  refine c1.mono ?_
  rintro e w1 ⟨v, rfl, h1⟩
  obtain ⟨xl, rfl, hxz, hxu⟩ := h1.us
  have E1 : Hid (Ext w w1) := h1.1
  have XZ : Hid (xl.z = near a r M) := hxz
  have XU : Hid (Us w1 xl) := hxu
  clear c1 h1 hxz hxu
  obtain ⟨xa, xc, xz⟩ := xl
  go_wp2_with fail
  refine (c2.out w1).mono ?_
  rintro e w2 ⟨rfl, h2⟩
  have E2 : Hid (Ext w w2) := E1.out.trans h2
  have XU2 : Hid (Us w2 ⟨xa, xc, xz⟩) := XU.out.ext h2
  clear c2 h2 E1 XU
  go_wp2
  go_loopg [10, 11] M (fun gg s10 s11 wr => ∃ x : Nat, x ≤ M ∧ M - x ≤ gg ∧ s11 = .int .u32 x ∧ Aside (OwnU w2 wr s10 (near a r x)))
  case atStart => exact ⟨0, Nat.zero_le _, by omega, rfl, OwnU.nil (Ext.refl w2)⟩
  case round =>
    obtain ⟨x, hx, hg, rfl, A⟩ := hrel
    by_cases hlt : x < M
    · have hltz : (x : Int) < (M : Int) := by omega
      have c1 := AP.out x wr (by omega)
      have few := far_le32 a x
      have NO : Hid (OwnU w2 wr u10 (near a r x)) := A.out
      have NY : Hid (far a x ≤ r → near a r (x + 1) = near a r x ++ [x]) := fun h => near_yes h
      have NN : Hid (¬ far a x ≤ r → near a r (x + 1) = near a r x) := fun h => near_no h
      have hfl : Hid (((near a r x).length + 1) * 4 ≤ 140737488355328) := by show _ ≤ _; have := near_few a r x; omega
      clear A
      generalize far a x = F at *
      go_wp2_with fail
      refine c1.mono ?_
      rintro e w3 ⟨rfl, rfl⟩
      clear c1
      by_cases hf : F ≤ r
      · have NF : Hid (near a r (x + 1) = near a r x ++ [x]) := NY.out hf
        have hfz : (F : Int) ≤ (r : Int) := by omega
        clear NY NN
        go_wp2_with (at_builtin; refine wpList_appendU rfl _ _ rfl w2 _ u10 (by rfl) _ NO.out x (by rfl) hfl.out ?_; intro v' w4 O2; have O2' : Hid (OwnU w2 w4 v' (near a r (x + 1))) := by (rw [NF.out]; exact O2))
        go_roundg (M - (x + 1))
        case measure => omega
        case rel => exact ⟨x + 1, by omega, by omega, by go_num, O2'.out⟩
      · have NF : Hid (near a r (x + 1) = near a r x) := NN.out hf
        have hfz : ¬ (F : Int) ≤ (r : Int) := by omega
        clear NY NN
        go_wp2
        go_roundg (M - (x + 1))
        case measure => omega
        case rel => exact ⟨x + 1, by omega, by omega, by go_num, by rw [NF.out]; exact NO.out⟩
    · have hk' : x = M := by omega
      subst hk'
      have O2 : OwnU w2 wr u10 (near a r x) := A.out
      obtain ⟨ym, rfl, hyz, hyu⟩ := O2.us
      obtain ⟨ya, yc, yz⟩ := ym
      have E3 : Hid (Ext w wr) := E2.out.trans O2.1
      have c3 := WO.out ⟨xa, xc, xz⟩ ⟨ya, yc, yz⟩ wr (XU2.out.ext O2.1) hyu
      have hyz' : yz = near a r x := hyz
      have hxz' : xz = near a r x := XZ.out
      have hq : (xz == yz) = true := by rw [hyz', hxz']; exact beq_self_eq_true _
      simp only [Um.v] at c3
      rw [hq] at c3
      clear A hyz hyu hyz' hxz' hq XZ XU2 O2
      go_wp2_with fail
      refine c3.mono ?_
      rintro e w5 ⟨rfl, h5⟩
      have E4 : Hid (Ext w w5) := E3.out.trans h5.ext
      clear c3 h5
      go_wp2
      go_ret
      exact ⟨rfl, E4.out⟩

theorem ballTells_int (n x r : Int) (hx : (Lit.int .u32 x).wf = true) (w : World) : Calls Try.prog 4 #[.int .i64 n, .int .u32 x, .int .i64 r] w fun e w' => e = .returned (.bool true) ∧ Ext w w' := by
  have h := u32_in hx
  obtain ⟨X, rfl⟩ : ∃ X : Nat, x = X := ⟨x.toNat, by omega⟩
  by_cases hc : cb n r [X] = 0
  · obtain ⟨m, s, rfl, rfl, hm, hs, hg⟩ := cb_zero hc
    exact ballTells_good m X s hm (hg X (by simp)) hs w
  · exact ballTells_bad n r X (by omega) hc w

set_option maxRecDepth 100000 in
theorem ballTells_lifted (os : Os) (started : os.Started) (H : Type) (enc : TypeId × Value → H) :
    ReturnsInHanded {} Try.checked os 4 .any (Rows.ballTellsSpec.pre6 enc Try.prog Try.f4 Rows.ballTellsRow.domain false) (Rows.ballTellsSpec.post enc Try.prog Try.f4 false true false false) := by
  refine returnsInHanded_of_change (C := Try.checked) own started (by kernel_rfl) Try.func4
    (ChangeSpec.witness6 (enc := enc) (C := Try.checked) false ⟨#[], #[.int .i64 0, .int .u32 0, .int .i64 0], []⟩ 8 (by kernel_rfl) (by kernel_rfl) (by kernel_rfl) (by kernel_rfl)) ?_
  intro W base args ds gs before hval0 hW _ _
  have hval : ∀ (j : Nat) t v, Try.f4.params[j]? = some t → args[j]? = some v → Value.okWide Try.prog W .any base t v := hval0
  have hW' := hW
  obtain ⟨p, q, hA0, hV, rfl, hfz, hnd⟩ := hW
  have hA : DataW.TrodAll enc Try.prog W 0 (fun _ => true) true Try.f4.params.toList args.toList ds p := hA0
  rw [Try.params4] at hA hval
  obtain ⟨v0, vs0, d0, ds0, p0, q0, hargs, rfl, rfl, h0, r0⟩ := trodAll_cons hA
  obtain ⟨v1, vs1, d1, ds1, p1, q1, rfl, rfl, rfl, h1, r1⟩ := trodAll_cons r0
  obtain ⟨v2, vs2, d2, ds2, p2, q2, rfl, rfl, rfl, h2, r2⟩ := trodAll_cons r1
  obtain ⟨rfl, rfl, rfl⟩ := trodAll_nil r2
  obtain rfl : args = #[v0, v1, v2] := by cases args; simp_all
  obtain ⟨rfl, rfl⟩ := trodVars_none hV
  have lt0 : ∀ x ∈ p0, x.block < W.heap.size := by obtain ⟨m, hm⟩ := h0; exact DataW.trod_lt m _ _ _ hm
  obtain ⟨x0, rfl, -, -, wf0⟩ := open_int Try.underlying3 (hval 0 3 v0 rfl rfl) h0
  have lt1 : ∀ x ∈ p1, x.block < W.heap.size := by obtain ⟨m, hm⟩ := h1; exact DataW.trod_lt m _ _ _ hm
  obtain ⟨x1, rfl, -, -, wf1⟩ := open_int Try.underlying22 (hval 1 22 v1 rfl rfl) h1
  have lt2 : ∀ x ∈ p2, x.block < W.heap.size := by obtain ⟨m, hm⟩ := h2; exact DataW.trod_lt m _ _ _ hm
  obtain ⟨x2, rfl, -, -, wf2⟩ := open_int Try.underlying3 (hval 2 3 v2 rfl rfl) h2
  clear hA0 hval0
  refine (ballTells_int x0 x1 x2 wf1 W).mono fun e W' ⟨he, bel⟩ => ?_
  subst he
  exact ⟨_, rfl, _, _, _, [], _, [], hW', trodAll_mk1 (shut_bool Try.underlying4 _), (trodAll_cons_mk (Below.trod laidOut (by kernel_rfl) (of_decide_eq_true (by kernel_rfl)) h0 bel lt0) (trodAll_cons_mk (Below.trod laidOut (by kernel_rfl) (of_decide_eq_true (by kernel_rfl)) h1 bel lt1) (trodAll_cons_mk (Below.trod laidOut (by kernel_rfl) (of_decide_eq_true (by kernel_rfl)) h2 bel lt2) trodAll_mk0))), rfl, bel.frame _, fun h => by cases h⟩

theorem ballTells_holds : Rows.BallTellsSaid :=
  OpenClaim.holds_of_wide 4 Try.f4 rfl rfl rfl rfl rfl rfl rfl ⟨rfl, rfl, rfl, rfl, rfl⟩ rfl rfl rfl rfl rfl (by kernel_rfl) Try.func4 (by kernel_rfl)
    (of_decide_eq_true (by kernel_rfl)) (by unfold Func.isWrapper; rw [if_neg (of_decide_eq_false (by kernel_rfl))]; exact ⟨rfl, rfl⟩)
    (fun os started H enc _ => ballTells_lifted os started H enc)

#print axioms ballTells_holds

end Go.Proofs.Ytfcleenbhadfhaa
