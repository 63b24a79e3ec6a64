/-
  drop.bitsOf, drop.Words; quipuref.BitsCheck of no words, quipulaw.bitsAnd, quipukeep.bits.
-/
import Derived.Test.YtofdinddloejbaaPl
import Derived.Test.YtofdinddloejbaaWn
import Derived.Test.YtofdinddloejbaaOu
import Derived.Test.YtofdinddloejbaaBt
namespace Go.Proofs.Ytofdinddloejbaa
open Go.RowKit
set_option linter.unusedVariables false

theorem and_one32 (g : Nat) (hg : g < 4294967296) : bits BinOp.and IntKind.u32 (g : Int) 1 = ((g % 2 : Nat) : Int) := by
  have := u32_and_nat g 1 hg (by omega)
  rw [Nat.and_one_is_mod] at this
  exact this
theorem shr_one (x j : Nat) (hx : x < 65536) : (bits BinOp.and IntKind.u32 ((x : Int) / 2 ^ j) 1 == 1) = x.testBit j := by
  have e : (x : Int) / 2 ^ j = ((x / 2 ^ j : Nat) : Int) := by simp
  have hl : x / 2 ^ j ≤ x := Nat.div_le_self _ _
  rw [e, and_one32 _ (by omega), Nat.testBit_eq_decide_div_mod_eq, Bool.eq_iff_iff, beq_iff_eq, decide_eq_true_eq]
  omega

set_option maxHeartbeats 1000000 in
theorem bitsOf_any (n x : Nat) (hn : n ≤ 12) (hx : x < 65536) (w : World) : Calls Try.prog 22 #[.int .i64 n, .int .u32 x] w fun e w' => ∃ y : Wd, e = .returned y.v ∧ y.l = wb n x ∧ Bits w' y ∧ Ext w w' := by
  obtain ⟨F, hF⟩ : ∃ F : Nat → Nat → Bool, ∀ k j, F k j = (decide (j < k) && x.testBit j) := ⟨_, fun _ _ => rfl⟩
  have FN : Hid (∀ k j, F (k + 1) j = if j = k then x.testBit k else F k j) := fun k j => by
    rw [hF, hF]
    by_cases e : j = k
    · rw [if_pos e, e]; simp
    · rw [if_neg e]
      congr 1
      rw [Bool.eq_iff_iff]
      simp
      omega
  have F0 : Hid (∀ j, Value.bool (F 0 j) = Value.bool false) := fun j => by rw [hF]; simp
  have FE : Hid (bl (F n) n = wb n x) := bl_congr (fun i hi => by rw [hF]; simp [hi])
  have hmk := run_make_row' (P := Try.prog) 22 4 (.bool false) 1 Try.underlying22 info4 rfl .i64 .i64 n (by omega) (by omega)
  have st : Hid (∃ W, W = w.alloc (.cells (madeCells #[.bool false] n) 4) ∧ Ext w W ∧ Row W w.heap.size 4 (bf (F 0) n)) :=
    ⟨_, rfl, (Ext.refl w).alloc _, Row.madeF w 4 (.bool false) n _ (fun j _ => F0.out j)⟩
  clear hF F0
  go_enter Try.func22, Try.ntmps22
  go_wp2
  obtain ⟨W, hW, hE, hR⟩ := st.out
  rw [← hW]
  have HE : Hid (Ext w W) := hE
  have HR : Hid (Row W w.heap.size 4 (bf (F 0) n)) := hR
  clear st hE hR hW hmk
  go_loopg [6, 11] n (fun gg _ s11 wr => ∃ k : Nat, k ≤ n ∧ n - k ≤ gg ∧ s11 = .int .i64 k ∧ Aside (Ext w wr) ∧ Aside (Row wr w.heap.size 4 (bf (F k) n)))
  case atStart => exact ⟨0, Nat.zero_le _, by omega, rfl, HE.out, HR.out⟩
  case round =>
    obtain ⟨k, hk, hgg, rfl, E, X⟩ := hrel
    by_cases hlt : k < n
    · have hltz : (k : Int) < (n : Int) := by omega
      have e1 := X.out.cellF k hlt
      have f1 := X.out.fr k
      have sb := shr_one x k hx
      have nX : Hid (Row (wr.setCell ⟨w.heap.size, k, none⟩ (.bool (x.testBit k))) w.heap.size 4 (bf (F (k + 1)) n)) := X.out.setF _ _ (fun j hj => by
        show Value.bool _ = _
        rw [FN.out k j]
        by_cases e : j = k
        · rw [if_pos e, if_pos e]
        · rw [if_neg e, if_neg e])
      have nE : Hid (Ext w (wr.setCell ⟨w.heap.size, k, none⟩ (.bool (x.testBit k)))) := E.out.setCell (Nat.le_refl _) _
      clear FN X E HE HR FE
      generalize F k k = u0 at *
      generalize x.testBit k = tb at *
      go_wp2
      go_roundg (n - (k + 1))
      case measure => omega
      case rel => exact ⟨k + 1, by omega, by omega, by go_num, nE.out, nX.out⟩
    · obtain rfl : k = n := by omega
      have hltz : ¬ (k : Int) < (k : Int) := by omega
      have O : Hid (Bits wr ⟨some ⟨w.heap.size, 0, none⟩, k, bl (F k) k⟩) := by
        have h := X.out
        rw [bf_bv] at h
        have := h.bits (by rw [bl_len]; unfold maxLen; omega)
        rw [bl_len] at this
        exact this
      clear FN X HE HR
      go_wp2
      go_ret
      exact ⟨⟨some ⟨w.heap.size, 0, none⟩, k, bl (F k) k⟩, by simp only [Wd.v, bl_len]; rfl, FE.out, O.out, E.out⟩

theorem Words_bad1 (n a : Int) (hc : dce n a = 1) (w : World) : Calls Try.prog 11 #[.int .i64 n, .int .i64 a] w fun e w' => e = .returned (.tuple #[.slice none 0 0, .int .i64 1]) ∧ w' = w := by
  have c1 := check_any n a w
  rw [hc] at c1
  clear hc
  go_enter Try.func11, Try.ntmps11
  go_wp2_with fail
  refine c1.mono ?_
  rintro e w1 ⟨rfl, rfl⟩
  clear c1
  go_wp2
  go_ret2
  exact ⟨rfl, rfl⟩
theorem Words_bad4 (n a : Int) (hc : dce n a = 4) (w : World) : Calls Try.prog 11 #[.int .i64 n, .int .i64 a] w fun e w' => e = .returned (.tuple #[.slice none 0 0, .int .i64 4]) ∧ w' = w := by
  have c1 := check_any n a w
  rw [hc] at c1
  clear hc
  go_enter Try.func11, Try.ntmps11
  go_wp2_with fail
  refine c1.mono ?_
  rintro e w1 ⟨rfl, rfl⟩
  clear c1
  go_wp2
  go_ret2
  exact ⟨rfl, rfl⟩

set_option maxHeartbeats 1000000 in
theorem Words_good (n a : Nat) (hn : n ≤ 12) (ha : a ≤ n) (w : World) : Calls Try.prog 11 #[.int .i64 n, .int .i64 a] w fun e w' => ∃ y : Um, e = .returned (.tuple #[y.v, .int .i64 0]) ∧ y.z = wl n a ∧ Us w' y ∧ Ext w w' := by
  have hM : 2 ^ n ≤ 2 ^ 12 := Nat.pow_le_pow_right (by omega) hn
  have pw : (2 : Int) ^ n % 4294967296 = ((2 ^ n : Nat) : Int) := pow_in _ (by omega)
  have c1 := check_any (n : Int) (a : Int) w
  rw [show dce (n : Int) (a : Int) = 0 by unfold dce; rw [if_neg (by omega), if_neg (by omega)]] at c1
  obtain ⟨G, hG⟩ : ∃ G : Nat → Nat, ∀ k, G k = sm (wb n k) := ⟨_, fun _ => rfl⟩
  obtain ⟨P, hP⟩ : ∃ P : Nat → Nat, ∀ k, P k = ps 0 (wb n k) := ⟨_, fun _ => rfl⟩
  have CB : Hid (∀ (k : Nat) W, k < 65536 → Calls Try.prog 22 #[.int .i64 n, .int .u32 k] W fun e w' => ∃ y : Wd, e = .returned y.v ∧ (∀ V, Ext w' V → Calls Try.prog 20 #[y.v] V fun e v' => e = .returned (.int .i64 (P k : Nat)) ∧ v' = V) ∧ Ext W w') := fun k W hk => by
    refine (bitsOf_any n k hn hk W).mono ?_
    rintro e w' ⟨y, rfl, hy, hb, E⟩
    refine ⟨y, rfl, fun V EV => ?_, E⟩
    have := places_any y (by rw [hy, bl_len]; omega) V (hb.ext EV)
    rw [hy, ← hP] at this
    exact this
  have HR : Hid (∀ k, (P k : Int).tmod ((n : Int) + 1) = (G k : Int) ∧ P k ≤ 1000) := fun k => by
    rw [hP, hG]
    unfold sm
    rw [bl_len]
    refine ⟨(Int.ofNat_tmod _ (n + 1)).symm, ?_⟩
    have h1 := ps_le (wb n k) 0
    rw [bl_len] at h1
    have h2 : (0 + n) * n ≤ 12 * 12 := Nat.mul_le_mul (by omega) hn
    omega
  have HY : Hid (∀ k, G k = a → wlk n a (k + 1) = wlk n a k ++ [k]) := fun k h => by rw [wlk_next, if_pos (by rw [← hG]; exact h)]
  have HN : Hid (∀ k, G k ≠ a → wlk n a (k + 1) = wlk n a k) := fun k h => by rw [wlk_next, if_neg (by rw [← hG]; exact h), List.append_nil]
  have HL : Hid (∀ k, (wlk n a k).length ≤ k) := fun k => wlk_len n a k
  have FI : Hid (wl n a = wlk n a (2 ^ n)) := rfl
  have Z0 : Hid (wlk n a 0 = []) := rfl
  clear hG hP
  generalize wl n a = R at *
  generalize wlk n a = H at *
  generalize 2 ^ n = M at *
  go_enter Try.func11, Try.ntmps11
  go_wp2_with fail
  refine c1.mono ?_
  rintro e w1 ⟨rfl, rfl⟩
  clear c1
  go_wp2
  rw [pw]
  clear pw
  go_loopg [7, 8, 17] M (fun gg s7 _ s17 wr => ∃ k : Nat, k ≤ M ∧ M - k ≤ gg ∧ s17 = .int .u32 k ∧ Aside (OwnU w1 wr s7 (H k)))
  case atStart => exact ⟨0, Nat.zero_le _, by omega, rfl, by show OwnU _ _ _ _; rw [Z0.out]; exact OwnU.nil (Ext.refl _)⟩
  case round =>
    obtain ⟨k, hk, hg, rfl, O⟩ := hrel
    by_cases hlt : k < M
    · have hltz : (k : Int) < (M : Int) := by omega
      have OO : Hid (OwnU w1 wr u7 (H k)) := O.out
      have hfl : Hid (((H k).length + 1) * 4 ≤ 140737488355328) := by show _ ≤ _; have := HL.out k; omega
      have cb := CB.out k wr (by omega)
      obtain ⟨hr, hp⟩ := HR.out k
      have hy := HY.out k
      have hN := HN.out k
      clear O CB HR HY HN HL FI Z0
      generalize P k = p at *
      generalize G k = q at *
      go_wp2_with fail
      refine cb.mono ?_
      rintro e w2 ⟨y, rfl, c2, E2⟩
      have O2 : Hid (OwnU w1 w2 u7 (H k)) := OO.out.ext E2
      have c3 := c2 w2 (Ext.refl _)
      clear cb c2 E2 OO
      go_wp2_with fail
      refine c3.mono ?_
      rintro e w3 ⟨rfl, rfl⟩
      clear c3
      by_cases h : q = a
      · have hz : ((q : Int) == (a : Int)) = true := by rw [h]; simp
        have nx : Hid (H (k + 1) = H k ++ [k]) := hy h
        clear hy hN h
        go_wp2_with (at_builtin; refine wpList_appendU rfl _ _ rfl w1 _ u7 (by rfl) _ O2.out k (by rfl) hfl.out ?_; intro v' w3 O3; have O3' : Hid (OwnU w1 w3 v' (H (k + 1))) := by (show OwnU _ _ _ _; rw [nx.out]; exact O3))
        go_roundg (M - (k + 1))
        case measure => omega
        case rel => exact ⟨k + 1, by omega, by omega, by go_num, O3'.out⟩
      · have hz : ((q : Int) == (a : Int)) = false := by rw [beq_eq_false_iff_ne]; omega
        have nx : Hid (H (k + 1) = H k) := hN h
        have O3 : Hid (OwnU w1 w3 u7 (H (k + 1))) := by show OwnU _ _ _ _; rw [nx.out]; exact O2.out
        clear hy hN h O2
        go_wp2
        go_roundg (M - (k + 1))
        case measure => omega
        case rel => exact ⟨k + 1, by omega, by omega, by go_num, O3.out⟩
    · obtain rfl : k = M := by omega
      have hltz : ¬ (k : Int) < (k : Int) := by omega
      have OO : Hid (OwnU w1 wr u7 R) := by show OwnU _ _ _ _; rw [FI.out]; exact O.out
      obtain ⟨y, hy, hz, hu⟩ := OO.out.us
      subst hy
      have HZ : Hid (y.z = R ∧ Us wr y ∧ Ext w1 wr) := ⟨hz, hu, OO.out.1⟩
      clear O OO hz hu
      go_wp2
      go_ret2
      exact ⟨y, rfl, HZ.out⟩

theorem bitsCheck_none (n : Int) (w : World) : Calls Try.prog 23 #[.int .i64 n, .slice none 0 0] w fun e w' => e = .returned (.int .i64 (if n < 0 ∨ 12 < n then 1 else 0)) ∧ w' = w := by
  by_cases h1 : n < 0
  · rw [if_pos (.inl h1)]
    go_enter Try.func23, Try.ntmps23
    go_wp2
    go_ret
    exact ⟨rfl, rfl⟩
  · by_cases h2 : 12 < n
    · rw [if_pos (.inr h2)]
      go_enter Try.func23, Try.ntmps23
      go_wp2
      go_ret
      exact ⟨rfl, rfl⟩
    · rw [if_neg (by omega)]
      go_enter Try.func23, Try.ntmps23
      go_wp2
      go_loopg [6, 15] 0 (fun gg _ s15 wr => wr = w ∧ s15 = .int .i64 0)
      case atStart => exact ⟨rfl, rfl⟩
      case round =>
        obtain ⟨rfl, rfl⟩ := hrel
        go_wp2
        go_ret
        exact ⟨rfl, rfl⟩

theorem bitsAnd_any (n a : Int) (w : World) : Calls Try.prog 12 #[.int .i64 n, .int .i64 a] w fun e w' => e = .returned (.int .i64 (dce n a)) ∧ w' = w := by
  have c1 := bitsCheck_none n w
  rcases dce_cases n a with ⟨h, h1⟩ | ⟨h, h1, h2, h3 | h3⟩ | ⟨h, h1, h2, h3, h4⟩
  all_goals rw [h]; clear h
  · rw [if_pos h1] at c1
    clear h1
    go_enter Try.func12, Try.ntmps12
    go_wp2_with fail
    refine c1.mono ?_
    rintro e w1 ⟨rfl, rfl⟩
    clear c1
    go_wp2
    go_ret
    exact ⟨rfl, rfl⟩
  · rw [if_neg (by omega)] at c1
    go_enter Try.func12, Try.ntmps12
    go_wp2_with fail
    refine c1.mono ?_
    rintro e w1 ⟨rfl, rfl⟩
    clear c1
    go_wp2
    go_ret
    exact ⟨rfl, rfl⟩
  · rw [if_neg (by omega)] at c1
    have h0 : ¬ a < 0 := by omega
    go_enter Try.func12, Try.ntmps12
    go_wp2_with fail
    refine c1.mono ?_
    rintro e w1 ⟨rfl, rfl⟩
    clear c1
    go_wp2
    go_ret
    exact ⟨rfl, rfl⟩
  · rw [if_neg (by omega)] at c1
    have h0 : ¬ a < 0 := by omega
    have h0' : ¬ n < a := by omega
    go_enter Try.func12, Try.ntmps12
    go_wp2_with fail
    refine c1.mono ?_
    rintro e w1 ⟨rfl, rfl⟩
    clear c1
    go_wp2
    go_ret
    exact ⟨rfl, rfl⟩

theorem keepBits_any (n : Int) (w : World) : Calls Try.prog 19 #[.int .i64 n] w fun e w' => e = .returned (.bool (decide (0 ≤ n ∧ n ≤ 12))) ∧ w' = w := by
  by_cases h1 : 0 ≤ n
  · by_cases h2 : n ≤ 12
    · rw [decide_eq_true ⟨h1, h2⟩]
      go_enter Try.func19, Try.ntmps19
      go_wp2
      go_ret
      exact ⟨rfl, rfl⟩
    · rw [decide_eq_false (fun h => h2 h.2)]
      go_enter Try.func19, Try.ntmps19
      go_wp2
      go_ret
      exact ⟨rfl, rfl⟩
  · rw [decide_eq_false (fun h => h1 h.1)]
    go_enter Try.func19, Try.ntmps19
    go_wp2
    go_ret
    exact ⟨rfl, rfl⟩

end Go.Proofs.Ytofdinddloejbaa
