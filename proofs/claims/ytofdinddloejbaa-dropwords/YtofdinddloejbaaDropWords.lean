/-
  For any two numbers the program tells all words of so many bits that have such a sum: DropWords returns true for every two numbers, and changes nothing.
-/
import Derived.Test.YtofdinddloejbaaOpen
import Derived.Test.YtofdinddloejbaaWb
import Derived.Test.YtofdinddloejbaaWo
import Derived.ProofKit
namespace Go.Proofs.Ytofdinddloejbaa
open Go.ChangeShapes Go.WideShapes Go.ChangeAt Go.RowKit Go.Deep
set_option linter.unusedVariables false

set_option maxRecDepth 100000 in
theorem dropWords_bad1 (n a : Int) (h : dce n a = 1) (w : World) : Calls Try.prog 4 #[.int .i64 n, .int .i64 a] w fun e w' => e = .returned (.bool true) ∧ Ext w w' := by
  have c1 := Words_bad1 n a h w
  have c2 := bitsAnd_any n a w
  rw [h] at c2
  clear h
  go_enter Try.func4, Try.ntmps4
  go_wp2_with fail
  refine c1.mono ?_
  rintro e w1 ⟨rfl, rfl⟩
  clear c1
  go_wp2_with fail
  refine c2.mono ?_
  rintro e w1 ⟨rfl, rfl⟩
  clear c2
  go_wp2
  go_ret
  exact ⟨rfl, Ext.refl _⟩

set_option maxRecDepth 100000 in
theorem dropWords_bad4 (n a : Int) (h : dce n a = 4) (w : World) : Calls Try.prog 4 #[.int .i64 n, .int .i64 a] w fun e w' => e = .returned (.bool true) ∧ Ext w w' := by
  have c1 := Words_bad4 n a h w
  have c2 := bitsAnd_any n a w
  rw [h] at c2
  clear h
  go_enter Try.func4, Try.ntmps4
  go_wp2_with fail
  refine c1.mono ?_
  rintro e w1 ⟨rfl, rfl⟩
  clear c1
  go_wp2_with fail
  refine c2.mono ?_
  rintro e w1 ⟨rfl, rfl⟩
  clear c2
  go_wp2
  go_ret
  exact ⟨rfl, Ext.refl _⟩

set_option maxHeartbeats 4000000 in
set_option maxRecDepth 100000 in
theorem dropWords_good (n a : Nat) (hn : n ≤ 12) (ha : a ≤ n) (w : World) : Calls Try.prog 4 #[.int .i64 n, .int .i64 a] w fun e w' => e = .returned (.bool true) ∧ Ext w w' := by
  have hM : 2 ^ n ≤ 2 ^ 12 := Nat.pow_le_pow_right (by omega) hn
  have pw : (2 : Int) ^ n % 4294967296 = ((2 ^ n : Nat) : Int) := pow_in _ (by omega)
  have c1 := Words_good n a hn ha w
  have c2 : Hid (∀ W, Calls Try.prog 12 #[.int .i64 n, .int .i64 a] W fun e w' => e = .returned (.int .i64 0) ∧ w' = W) := fun W => by
    have := bitsAnd_any (n : Int) (a : Int) W
    rw [show dce (n : Int) (a : Int) = 0 by unfold dce; rw [if_neg (by omega), if_neg (by omega)]] at this
    exact this
  obtain ⟨G, hG⟩ : ∃ G : Nat → Nat, ∀ k, G k = sm (wb n k) := ⟨_, fun _ => rfl⟩
  obtain ⟨F, hF⟩ : ∃ F : Nat → Nat → Nat → Bool, ∀ x k j, F x k j = (decide (j < k) && x.testBit j) := ⟨_, fun _ _ _ => rfl⟩
  have FN : Hid (∀ x k j, F x (k + 1) j = if j = k then x.testBit k else F x k j) := fun x k j => by
    rw [hF, hF]
    by_cases e : j = k
    · rw [if_pos e, e]; simp
    · rw [if_neg e]
      congr 1
      rw [Bool.eq_iff_iff]
      simp
      omega
  have CP : Hid (∀ (x B : Nat) (W : World), Row W B 4 (bf (F x n) n) → Calls Try.prog 10 #[.slice (some ⟨B, 0, none⟩) n n] W fun e w' => e = .returned (.int .i64 (G x : Nat)) ∧ w' = W) := fun x B W h => by
    rw [bf_bv] at h
    have hb := h.bits (by rw [bl_len]; unfold maxLen; omega)
    rw [bl_len] at hb
    have := refPlaces_any _ (by simp only [bl_len]; omega) W hb
    rw [hG]
    have e : bl (F x n) n = wb n x := bl_congr (fun i hi => by rw [hF]; simp [hi])
    simp only [Wd.v, bl_len] at this
    rw [e] at this
    exact this
  have F0 : Hid (∀ x j, Value.bool (F x 0 j) = Value.bool false) := fun x j => by rw [hF]; simp
  have HY : Hid (∀ k, G k = a → wlk n a (k + 1) = wlk n a k ++ [k]) := fun k h => by rw [wlk_next, if_pos (by rw [← hG]; exact h)]
  have HN : Hid (∀ k, G k ≠ a → wlk n a (k + 1) = wlk n a k) := fun k h => by rw [wlk_next, if_neg (by rw [← hG]; exact h), List.append_nil]
  have HL : Hid (∀ k, (wlk n a k).length ≤ k) := fun k => wlk_len n a k
  have FI : Hid (wl n a = wlk n a (2 ^ n)) := rfl
  have Z0 : Hid (wlk n a 0 = []) := rfl
  have CB : Hid (∀ (x i : Nat) W, x < 4294967296 → i < 32 → Calls Try.prog 13 #[.int .u32 x, .int .i64 i] W fun e w' => e = .returned (.bool (x.testBit i)) ∧ w' = W) := fun x i W h h' => bit_any x i h h' W
  have CW : Hid (∀ (y z : Um) W, Us W y → Us W z → y.z = z.z → Calls Try.prog 14 #[y.v, z.v] W fun e w' => e = .returned (.bool true) ∧ Ext W w') := fun y z W h h' hh => by
    refine (words_any y z W h h').mono ?_
    rintro e w' ⟨rfl, q⟩
    exact ⟨ret_bool (by rw [hh]; simp), q.ext⟩
  have hmk := run_make_row' (P := Try.prog) 22 4 (.bool false) 1 Try.underlying22 info4 rfl .i64 .i64 n (by omega) (by omega)
  clear hG hF
  generalize wl n a = R at *
  generalize wlk n a = H at *
  generalize 2 ^ n = M at *
  go_enter Try.func4, Try.ntmps4
  go_wp2_with fail
  refine c1.mono ?_
  rintro e w1 ⟨y, rfl, hyz, hyu, E1⟩
  have YY : Hid (y.z = R ∧ Us w1 y ∧ Ext w w1) := ⟨hyz, hyu, E1⟩
  clear c1 hyz hyu E1
  go_wp2_with fail
  refine (c2.out w1).mono ?_
  rintro e w2 ⟨rfl, rfl⟩
  clear c2
  go_wp2
  go_loopg [8, 9, 10, 11] M (fun gg s8 s9 _ _ wr => ∃ k : Nat, k ≤ M ∧ M - k ≤ gg ∧ s9 = .int .u32 k ∧ Aside (OwnU w2 wr s8 (H k)))
  case atStart => exact ⟨0, Nat.zero_le _, by omega, rfl, by show OwnU _ _ _ _; rw [Z0.out]; exact OwnU.nil (Ext.refl _)⟩
  case round =>
    obtain ⟨k, hk, hg, rfl, O⟩ := hrel
    by_cases hlt : k < M
    · have hltz : (k : Int) < (M : Int) := by omega
      have OO : Hid (OwnU w2 wr u8 (H k)) := O.out
      have hfl : Hid (((H k).length + 1) * 4 ≤ 140737488355328) := by show _ ≤ _; have := HL.out k; omega
      have CP' : Hid (∀ (B : Nat) (W : World), Row W B 4 (bf (F k n) n) → Calls Try.prog 10 #[.slice (some ⟨B, 0, none⟩) n n] W fun e w' => e = .returned (.int .i64 (G k : Nat)) ∧ w' = W) := CP.out k
      have CB' : Hid (∀ (i : Nat) W, i < 32 → Calls Try.prog 13 #[.int .u32 k, .int .i64 i] W fun e w' => e = .returned (.bool (k.testBit i)) ∧ w' = W) := fun i W h => CB.out k i W (by omega) h
      have FN' : Hid (∀ m j, F k (m + 1) j = if j = m then k.testBit m else F k m j) := FN.out k
      have hy : Hid (G k = a → H (k + 1) = H k ++ [k]) := HY.out k
      have hN : Hid (G k ≠ a → H (k + 1) = H k) := HN.out k
      have st : Hid (∃ W, W = wr.alloc (.cells (madeCells #[.bool false] n) 4) ∧ Ext wr W ∧ Row W wr.heap.size 4 (bf (F k 0) n)) :=
        ⟨_, rfl, (Ext.refl wr).alloc _, Row.madeF wr 4 (.bool false) n _ (fun j _ => F0.out k j)⟩
      obtain ⟨wx, hwx⟩ : ∃ wx, wx = wr := ⟨_, rfl⟩
      rw [← hwx] at OO st ⊢
      clear hwx O CP CB FN HY HN HL FI Z0 F0 CW YY
      generalize F k = f at *
      generalize G k = q at *
      go_wp2
      obtain ⟨W, hW, hE, hR⟩ := st.out
      rw [← hW]
      try rw [pw]
      have HE : Hid (Ext wx W) := hE
      have HR : Hid (Row W wx.heap.size 4 (bf (f 0) n)) := hR
      clear st hE hR hW hmk pw
      go_loopg [11] n (fun gj s11 wq => ∃ j : Nat, j ≤ n ∧ n - j ≤ gj ∧ s11 = .int .i64 j ∧ Aside (Ext wx wq) ∧ Aside (Row wq wx.heap.size 4 (bf (f j) n)))
      case atStart => exact ⟨0, Nat.zero_le _, by omega, rfl, HE.out, HR.out⟩
      case round =>
        obtain ⟨j, hj, hgj, rfl, E, X⟩ := hrel
        by_cases hlt2 : j < n
        · have hltz2 : (j : Int) < (n : Int) := by omega
          have e1 := X.out.cellF j hlt2
          have f1 := X.out.fr j
          have cb := CB'.out j wr (by omega)
          have nX : Hid (Row (wr.setCell ⟨wx.heap.size, j, none⟩ (.bool (k.testBit j))) wx.heap.size 4 (bf (f (j + 1)) n)) := X.out.setF _ _ (fun i hi => by
            show Value.bool _ = _
            rw [FN'.out j i]
            by_cases e : i = j
            · rw [if_pos e, if_pos e]
            · rw [if_neg e, if_neg e])
          have nE : Hid (Ext wx (wr.setCell ⟨wx.heap.size, j, none⟩ (.bool (k.testBit j)))) := E.out.setCell (Nat.le_refl _) _
          clear FN' X E HE HR CB' CP' hy hN OO
          generalize f j j = u0 at *
          generalize k.testBit j = tb at *
          go_wp2_with fail
          refine cb.mono ?_
          rintro e w4 ⟨rfl, rfl⟩
          clear cb
          go_wp2
          go_roundg (n - (j + 1))
          case measure => omega
          case rel => exact ⟨j + 1, by omega, by omega, by go_num, nE.out, nX.out⟩
        · obtain rfl : j = n := by omega
          have hltz2 : ¬ (j : Int) < (j : Int) := by omega
          have c5 := CP'.out _ wr X.out
          have O2 : Hid (OwnU w2 wr u8 (H k)) := OO.out.ext E.out
          clear FN' X E HE HR CB' CP' OO
          go_wp2_with fail
          refine c5.mono ?_
          rintro e w4 ⟨rfl, rfl⟩
          clear c5
          by_cases h : q = a
          · have hz : ((q : Int) == (a : Int)) = true := by rw [h]; simp
            have nx : Hid (H (k + 1) = H k ++ [k]) := hy.out h
            clear hy hN h
            go_wp2_with (at_builtin; refine wpList_appendU rfl _ _ rfl w2 _ u8 (by rfl) _ O2.out k (by rfl) hfl.out ?_; intro v' w3 O3; have O3' : Hid (OwnU w2 w3 v' (H (k + 1))) := by (show OwnU _ _ _ _; rw [nx.out]; exact O3))
            go_roundg (M - (k + 1))
            case measure => omega
            case rel => exact ⟨k + 1, by omega, by omega, by go_num, O3'.out⟩
          · have hz : ((q : Int) == (a : Int)) = false := by rw [beq_eq_false_iff_ne]; omega
            have nx : Hid (H (k + 1) = H k) := hN.out h
            have O3 : Hid (OwnU w2 w4 u8 (H (k + 1))) := by show OwnU _ _ _ _; rw [nx.out]; exact O2.out
            clear hy hN h O2
            go_wp2
            go_roundg (M - (k + 1))
            case measure => omega
            case rel => exact ⟨k + 1, by omega, by omega, by go_num, O3.out⟩
    · obtain rfl : k = M := by omega
      have hltz : ¬ (k : Int) < (k : Int) := by omega
      have OO : OwnU w2 wr u8 R := by rw [FI.out]; exact O.out
      obtain ⟨z, rfl, hz, hu⟩ := OO.us
      have EE : Hid (Ext w wr) := YY.out.2.2.trans OO.1
      have c6 := CW.out y z wr (YY.out.2.1.ext OO.1) hu (by rw [hz]; exact YY.out.1)
      clear O OO hz hu CW CP CB FN HY HN HL FI Z0 F0 YY hmk
      go_wp2_with fail
      refine c6.mono ?_
      rintro e w5 ⟨rfl, E6⟩
      have E7 : Hid (Ext w w5) := EE.out.trans E6
      clear c6 E6 EE
      go_wp2
      go_ret
      exact ⟨rfl, E7.out⟩

theorem dropWords_walk (n a : Int) (w : World) : Calls Try.prog 4 #[.int .i64 n, .int .i64 a] w fun e w' => e = .returned (.bool true) ∧ Ext w w' := by
  rcases dce_cases n a with ⟨h, _⟩ | ⟨h, _⟩ | ⟨h, h1, h2, h3, h4⟩
  · exact dropWords_bad1 n a h w
  · exact dropWords_bad4 n a h w
  · obtain ⟨m, rfl⟩ := Int.eq_ofNat_of_zero_le h1
    obtain ⟨b, rfl⟩ := Int.eq_ofNat_of_zero_le h3
    exact dropWords_good m b (by omega) (by omega) w

set_option maxRecDepth 100000 in
theorem dropWords_lifted (os : Os) (started : os.Started) (H : Type) (enc : TypeId × Value → H) :
    ReturnsInHanded {} Try.checked os 4 .any (Rows.dropWordsSpec.pre6 enc Try.prog Try.f4 Rows.dropWordsRow.domain false) (Rows.dropWordsSpec.post enc Try.prog Try.f4 false true false false) := by
  refine returnsInHanded_of_change (C := Try.checked) own started (by kernel_rfl) Try.func4
    (ChangeSpec.witness6 (enc := enc) (C := Try.checked) false ⟨#[], #[.int .i64 0, .int .i64 0], []⟩ 8 (by kernel_rfl) (by kernel_rfl) (by kernel_rfl) (by kernel_rfl)) ?_
  intro W base args ds gs before hval0 hW _ _
  have hval : ∀ (j : Nat) t v, Try.f4.params[j]? = some t → args[j]? = some v → Value.okWide Try.prog W .any base t v := hval0
  have hW' := hW
  obtain ⟨p, q, hA0, hV, rfl, hfz, hnd⟩ := hW
  have hA : DataW.TrodAll enc Try.prog W 0 (fun _ => true) true Try.f4.params.toList args.toList ds p := hA0
  rw [Try.params4] at hA hval
  obtain ⟨v0, vs0, d0, ds0, p0, q0, hargs, rfl, rfl, h0, r0⟩ := trodAll_cons hA
  obtain ⟨v1, vs1, d1, ds1, p1, q1, rfl, rfl, rfl, h1, r1⟩ := trodAll_cons r0
  obtain ⟨rfl, rfl, rfl⟩ := trodAll_nil r1
  obtain rfl : args = #[v0, v1] := by cases args; simp_all
  obtain ⟨rfl, rfl⟩ := trodVars_none hV
  have lt0 : ∀ x ∈ p0, x.block < W.heap.size := by obtain ⟨m, hm⟩ := h0; exact DataW.trod_lt m _ _ _ hm
  obtain ⟨x0, rfl, -, -, wf0⟩ := open_int Try.underlying3 (hval 0 3 v0 rfl rfl) h0
  have lt1 : ∀ x ∈ p1, x.block < W.heap.size := by obtain ⟨m, hm⟩ := h1; exact DataW.trod_lt m _ _ _ hm
  obtain ⟨x1, rfl, -, -, wf1⟩ := open_int Try.underlying3 (hval 1 3 v1 rfl rfl) h1
  clear hA0 hval0
  refine (dropWords_walk x0 x1 W).mono fun e W' ⟨he, bel⟩ => ?_
  subst he
  exact ⟨_, rfl, _, _, _, [], _, [], hW', trodAll_mk1 (shut_bool Try.underlying4 _), (trodAll_cons_mk (Below.trod laidOut (by kernel_rfl) (of_decide_eq_true (by kernel_rfl)) h0 bel lt0) (trodAll_cons_mk (Below.trod laidOut (by kernel_rfl) (of_decide_eq_true (by kernel_rfl)) h1 bel lt1) trodAll_mk0)), rfl, bel.frame _, fun h => by cases h⟩

theorem dropWords_holds : Rows.DropWordsSaid :=
  OpenClaim.holds_of_wide 4 Try.f4 rfl rfl rfl rfl rfl rfl rfl ⟨rfl, rfl, rfl, rfl, rfl⟩ rfl rfl rfl rfl rfl (by kernel_rfl) Try.func4 (by kernel_rfl)
    (of_decide_eq_true (by kernel_rfl)) (by unfold Func.isWrapper; rw [if_neg (of_decide_eq_false (by kernel_rfl))]; exact ⟨rfl, rfl⟩)
    (fun os started H enc _ => dropWords_lifted os started H enc)

#print axioms dropWords_holds

end Go.Proofs.Ytofdinddloejbaa
