/-
  field.Mul, field.Inv, field.Pow.
-/
import Derived.Test.YtllkfadghdnhhaaChk
import Derived.Test.YtllkfadghdnhhaaPd
import Derived.Test.YtllkfadghdnhhaaIv
namespace Go.Proofs.Ytllkfadghdnhhaa
open Go.RowKit

/-- A row of numbers that the caller has made just now. -/
theorem made_row (w : World) (z : List Int) : Row (w.alloc (.cells (z.map (Value.int .i64)).toArray 3)) w.heap.size 3 (z.map (Value.int .i64)) := heap_alloc_new _ _

theorem check_row (z : List Int) (hm : z.length ≤ maxLen) (w : World) : Calls Try.prog 19 #[.slice (some ⟨w.heap.size, 0, none⟩) z.length z.length] (w.alloc (.cells (z.map (Value.int .i64)).toArray 3)) fun e w' =>
    e = .returned (.int .i64 (fe z)) ∧ w' = w.alloc (.cells (z.map (Value.int .i64)).toArray 3) :=
  check_any ⟨some ⟨w.heap.size, 0, none⟩, z.length, z⟩ _ ((made_row w z).nums hm)

theorem refCheck_row (z : List Int) (hm : z.length ≤ maxLen) (w : World) : Calls Try.prog 10 #[.slice (some ⟨w.heap.size, 0, none⟩) z.length z.length] (w.alloc (.cells (z.map (Value.int .i64)).toArray 3)) fun e w' =>
    e = .returned (.int .i64 (fe z)) ∧ w' = w.alloc (.cells (z.map (Value.int .i64)).toArray 3) :=
  refCheck_any ⟨some ⟨w.heap.size, 0, none⟩, z.length, z⟩ _ ((made_row w z).nums hm)

theorem numbers_row (z : List Int) (hm : z.length ≤ maxLen) (w : World) : Calls Try.prog 18 #[.slice (some ⟨w.heap.size, 0, none⟩) z.length z.length] (w.alloc (.cells (z.map (Value.int .i64)).toArray 3)) fun e w' =>
    e = .returned (.bool (fe z == 0)) ∧ w' = w.alloc (.cells (z.map (Value.int .i64)).toArray 3) :=
  numbers_any ⟨some ⟨w.heap.size, 0, none⟩, z.length, z⟩ _ ((made_row w z).nums hm)

theorem Mul_bad (a b : Int) (h : fe [a, b] ≠ 0) (w : World) : Calls Try.prog 9 #[.int .i64 a, .int .i64 b] w fun e w' => e = .returned (.tuple #[.int .i64 0, .int .i64 (fe [a, b])]) ∧ Ext w w' := by
  have c1 : Calls Try.prog 19 #[.slice (some ⟨w.heap.size, 0, none⟩) 2 2] (w.alloc (.cells #[.int .i64 a, .int .i64 b] 3)) fun e w' => e = .returned (.int .i64 (fe [a, b])) ∧ w' = w.alloc (.cells #[.int .i64 a, .int .i64 b] 3) := check_row [a, b] (by simp [maxLen]) w
  have E : Hid (Ext w (w.alloc (.cells #[.int .i64 a, .int .i64 b] 3))) := (Ext.refl w).alloc _
  have hz : (fe [a, b] != 0) = true := bne_iff_ne.2 h
  clear h
  generalize fe [a, b] = X at *
  go_enter Try.func9, Try.ntmps9
  go_wp2_with fail
  refine c1.mono ?_
  rintro e w' ⟨rfl, rfl⟩
  clear c1
  go_wp2
  go_ret2
  exact ⟨rfl, E.out⟩

theorem Mul_good (a b : Nat) (ha : a < 16) (hb : b < 16) (w : World) : Calls Try.prog 9 #[.int .i64 a, .int .i64 b] w fun e w' => e = .returned (.tuple #[.int .i64 (gm a b : Nat), .int .i64 0]) ∧ Ext w w' := by
  have c1 : Calls Try.prog 19 #[.slice (some ⟨w.heap.size, 0, none⟩) 2 2] (w.alloc (.cells #[.int .i64 a, .int .i64 b] 3)) fun e w' => e = .returned (.int .i64 0) ∧ w' = w.alloc (.cells #[.int .i64 a, .int .i64 b] 3) := by
    have := check_row [(a : Int), b] (by simp [maxLen]) w
    rw [fe_good (by intro x hx; simp at hx; omega)] at this
    exact this
  have c2 := product_any a b ha hb (w.alloc (.cells #[.int .i64 a, .int .i64 b] 3))
  have E : Hid (Ext w (w.alloc (.cells #[.int .i64 a, .int .i64 b] 3))) := (Ext.refl w).alloc _
  generalize gm a b = G at *
  go_enter Try.func9, Try.ntmps9
  go_wp2_with fail
  refine c1.mono ?_
  rintro e w' ⟨rfl, rfl⟩
  clear c1
  go_wp2_with fail
  refine c2.mono ?_
  rintro e w' ⟨rfl, rfl⟩
  clear c2
  go_wp2
  go_ret2
  exact ⟨rfl, E.out⟩

theorem Inv_bad (a : Int) (h : fe [a] ≠ 0) (w : World) : Calls Try.prog 12 #[.int .i64 a] w fun e w' => e = .returned (.tuple #[.int .i64 0, .int .i64 (fe [a])]) ∧ Ext w w' := by
  have c1 : Calls Try.prog 19 #[.slice (some ⟨w.heap.size, 0, none⟩) 1 1] (w.alloc (.cells #[.int .i64 a] 3)) fun e w' => e = .returned (.int .i64 (fe [a])) ∧ w' = w.alloc (.cells #[.int .i64 a] 3) := check_row [a] (by simp [maxLen]) w
  have E : Hid (Ext w (w.alloc (.cells #[.int .i64 a] 3))) := (Ext.refl w).alloc _
  have hz : (fe [a] != 0) = true := bne_iff_ne.2 h
  clear h
  generalize fe [a] = X at *
  go_enter Try.func12, Try.ntmps12
  go_wp2_with fail
  refine c1.mono ?_
  rintro e w' ⟨rfl, rfl⟩
  clear c1
  go_wp2
  go_ret2
  exact ⟨rfl, E.out⟩

theorem check_one (a : Nat) (ha : a < 16) (w : World) : Calls Try.prog 19 #[.slice (some ⟨w.heap.size, 0, none⟩) 1 1] (w.alloc (.cells #[.int .i64 a] 3)) fun e w' => e = .returned (.int .i64 0) ∧ w' = w.alloc (.cells #[.int .i64 a] 3) := by
  have := check_row [(a : Int)] (by simp [maxLen]) w
  rw [fe_good (by intro x hx; simp at hx; omega)] at this
  exact this

theorem Inv_zero (w : World) : Calls Try.prog 12 #[.int .i64 0] w fun e w' => e = .returned (.tuple #[.int .i64 0, .int .i64 5]) ∧ Ext w w' := by
  have c1 := check_one 0 (by omega) w
  have E : Hid (Ext w (w.alloc (.cells #[.int .i64 0] 3))) := (Ext.refl w).alloc _
  have c2 := Inverse_zero (w.alloc (.cells #[.int .i64 0] 3))
  simp only [Int.natCast_zero] at c1
  go_enter Try.func12, Try.ntmps12
  go_wp2_with fail
  refine c1.mono ?_
  rintro e w' ⟨rfl, rfl⟩
  clear c1
  go_wp2_with fail
  refine c2.mono ?_
  rintro e w' ⟨rfl, rfl⟩
  clear c2
  go_wp2
  go_ret2
  exact ⟨rfl, E.out⟩

theorem Inv_good (a : Nat) (ha : a < 16) (h0 : a ≠ 0) (w : World) : Calls Try.prog 12 #[.int .i64 a] w fun e w' => e = .returned (.tuple #[.int .i64 (iv a : Nat), .int .i64 0]) ∧ Ext w w' := by
  have c1 := check_one a ha w
  have c2 := Inverse_good a ha h0 (w.alloc (.cells #[.int .i64 a] 3))
  have hz : ((iv a : Int) == 0) = false := beq_eq_false_iff_ne.2 (by have := (iv_one ha h0).2.2; omega)
  generalize iv a = V at *
  have E : Hid (Ext w (w.alloc (.cells #[.int .i64 a] 3))) := (Ext.refl w).alloc _
  go_enter Try.func12, Try.ntmps12
  go_wp2_with fail
  refine c1.mono ?_
  rintro e w' ⟨rfl, rfl⟩
  clear c1
  go_wp2_with fail
  refine c2.mono ?_
  rintro e w' ⟨rfl, rfl⟩
  clear c2
  go_wp2
  go_ret2
  exact ⟨rfl, E.out⟩

theorem Pow_bad (a k : Int) (h : fe [a] ≠ 0) (w : World) : Calls Try.prog 14 #[.int .i64 a, .int .i64 k] w fun e w' => e = .returned (.tuple #[.int .i64 0, .int .i64 (fe [a])]) ∧ Ext w w' := by
  have c1 : Calls Try.prog 19 #[.slice (some ⟨w.heap.size, 0, none⟩) 1 1] (w.alloc (.cells #[.int .i64 a] 3)) fun e w' => e = .returned (.int .i64 (fe [a])) ∧ w' = w.alloc (.cells #[.int .i64 a] 3) := check_row [a] (by simp [maxLen]) w
  have E : Hid (Ext w (w.alloc (.cells #[.int .i64 a] 3))) := (Ext.refl w).alloc _
  have hz : (fe [a] != 0) = true := bne_iff_ne.2 h
  clear h
  generalize fe [a] = X at *
  go_enter Try.func14, Try.ntmps14
  go_wp2_with fail
  refine c1.mono ?_
  rintro e w' ⟨rfl, rfl⟩
  clear c1
  go_wp2
  go_ret2
  exact ⟨rfl, E.out⟩

theorem Pow_less (a : Nat) (ha : a < 16) (k : Int) (hk : k < 0) (w : World) : Calls Try.prog 14 #[.int .i64 a, .int .i64 k] w fun e w' => e = .returned (.tuple #[.int .i64 0, .int .i64 4]) ∧ Ext w w' := by
  have c1 := check_one a ha w
  have E : Hid (Ext w (w.alloc (.cells #[.int .i64 a] 3))) := (Ext.refl w).alloc _
  go_enter Try.func14, Try.ntmps14
  go_wp2_with fail
  refine c1.mono ?_
  rintro e w' ⟨rfl, rfl⟩
  clear c1
  go_wp2
  go_ret2
  exact ⟨rfl, E.out⟩

theorem Pow_good (a k : Nat) (ha : a < 16) (hk : k ≤ 9223372036854775807) (w : World) : Calls Try.prog 14 #[.int .i64 a, .int .i64 k] w fun e w' => e = .returned (.tuple #[.int .i64 (gp a k : Nat), .int .i64 0]) ∧ Ext w w' := by
  have c1 := check_one a ha w
  have M : Hid (∀ (x y : Nat) W, x < 16 → y < 16 → Calls Try.prog 20 #[.int .i64 x, .int .i64 y] W fun e w' => e = .returned (.int .i64 (gm x y : Nat)) ∧ w' = W) := fun x y W hx hy => product_any x y hx hy W
  have E : Hid (Ext w (w.alloc (.cells #[.int .i64 a] 3))) := (Ext.refl w).alloc _
  obtain ⟨G, hG⟩ : ∃ G, gp a k = G := ⟨_, rfl⟩
  have S0 : Hid (gm 1 (gp a k) = G) := (gm_one (gp_lt ha k)).trans hG
  have k0 : ¬ (k : Int) < 0 := by omega
  rw [hG]
  clear hG
  go_enter Try.func14, Try.ntmps14
  go_wp2_with fail
  refine c1.mono ?_
  rintro e w' ⟨rfl, rfl⟩
  clear c1
  generalize w.alloc (.cells #[.int .i64 a] 3) = w1 at *
  go_wp2
  go_loopg [0, 1, 7] k (fun gg s0 s1 s7 wr => ∃ p q s : Nat, s0 = .int .i64 p ∧ s1 = .int .i64 q ∧ s7 = .int .i64 s ∧ p < 16 ∧ s < 16 ∧ q ≤ 9223372036854775807 ∧ q ≤ gg ∧ Aside (gm s (gp p q) = G) ∧ wr = w1)
  case atStart => exact ⟨a, k, 1, rfl, rfl, rfl, ha, by omega, hk, Nat.le_refl _, S0.out, rfl⟩
  case round =>
    obtain ⟨p, q, s, rfl, rfl, rfl, hp, hs, hq, hgg, A, rfl⟩ := hrel
    clear hk k0
    by_cases hz : q = 0
    · subst hz
      obtain rfl : s = G := by have := A.out; rw [← this]; show s = gm s 1; rw [gm_comm hs (by omega), gm_one hs]
      go_wp2
      go_ret2
      exact ⟨rfl, E.out⟩
    · have hpos : (0 : Int) < (q : Int) := by omega
      have c3 := M.out p p wr hp hp
      have c2 := M.out s p wr hs hp
      have l3 := gm_lt hp hp
      have l2 := gm_lt hs hp
      have l1 := gp_lt l3 (q / 2)
      have o1 : gm s (if q % 2 = 1 then p else 1) = if q % 2 = 1 then gm s p else s := by
        split
        · rfl
        · rw [gm_comm hs (by omega), gm_one hs]
      have lo : (if q % 2 = 1 then p else 1) < 16 := by split <;> omega
      have nx : Hid (gm (if q % 2 = 1 then gm s p else s) (gp (gm p p) (q / 2)) = G) := by
        show gm _ _ = G
        rw [← o1, gm_assoc hs lo l1, ← gp_step hp]
        exact A.out
      clear o1 lo l1 A
      generalize gm p p = P at *
      rcases Nat.mod_two_eq_zero_or_one q with h | h
      · have NX : Hid (gm s (gp P (q / 2)) = G) := by have := nx.out; rwa [h, if_neg (by decide)] at this
        have t1 : (q : Int).tmod 2 = 0 := by rw [Int.tmod_eq_emod_of_nonneg (by omega)]; omega
        have t2 : (q : Int) % 2 = 0 := by omega
        clear nx h c2
        go_wp2_with fail
        refine c3.mono ?_
        rintro e w' ⟨rfl, rfl⟩
        clear c3
        go_wp2
        go_roundg (q / 2)
        case measure => omega
        case rel => exact ⟨P, q / 2, s, rfl, by go_num, rfl, l3, hs, by omega, Nat.le_refl _, NX.out, rfl⟩
      · have NX : Hid (gm (gm s p) (gp P (q / 2)) = G) := by have := nx.out; rwa [h, if_pos rfl] at this
        have t1 : (q : Int).tmod 2 = 1 := by rw [Int.tmod_eq_emod_of_nonneg (by omega)]; omega
        have t2 : (q : Int) % 2 = 1 := by omega
        clear nx h
        generalize gm s p = S at *
        go_wp2_with fail
        refine c2.mono ?_
        rintro e w' ⟨rfl, rfl⟩
        clear c2
        go_wp2_with fail
        refine c3.mono ?_
        rintro e w' ⟨rfl, rfl⟩
        clear c3
        go_wp2
        go_roundg (q / 2)
        case measure => omega
        case rel => exact ⟨P, q / 2, S, rfl, by go_num, rfl, l3, l2, by omega, Nat.le_refl _, NX.out, rfl⟩

end Go.Proofs.Ytllkfadghdnhhaa
