/-
  quipuref.Inv, quipuref.Pow, quipuref.Value.
-/
import Derived.Test.YtjdipgkdaloclaaDoorRm
import Derived.Test.YtjdipgkdaloclaaDoorPd
namespace Go.Proofs.YtjdipgkdaloclaaDoor
open Go.RowKit

theorem refInv_any (a : Nat) (ha : a < 16) (h0 : a ≠ 0) (w : World) : Calls Tryd.prog 32 #[.int .i64 a] w fun e w' => e = .returned (.int .i64 (iv a : Nat)) ∧ w' = w := by
  have M : Hid (∀ (x : Nat) W, x < 16 → Calls Tryd.prog 30 #[.int .i64 a, .int .i64 x] W fun e w' => e = .returned (.int .i64 (gm a x : Nat)) ∧ w' = W) := fun x W hx => refMul_any a x ha hx W
  have F : Hid (∀ x, x < iv a → gm a x ≠ 1) := fun x hx => iv_first ha hx
  have O : Hid (gm a (iv a) = 1) := (iv_one ha h0).1
  have li := iv_lt ha
  have pi := (iv_one ha h0).2.2
  generalize iv a = V at *
  go_enter Tryd.func32, Tryd.ntmps32
  go_wp2
  go_loopg [3] 16 (fun gg s wr => ∃ k : Nat, 1 ≤ k ∧ k ≤ V ∧ V - k ≤ gg ∧ s = .int .i64 k ∧ wr = w)
  case atStart => exact ⟨1, Nat.le_refl _, by omega, by omega, rfl, rfl⟩
  case round =>
    obtain ⟨k, hk1, hk, hgg, rfl, rfl⟩ := hrel
    have c1 := M.out k wr (by omega)
    by_cases hlt : k < V
    · have hz := F.out k hlt
      have hz' : ((gm a k : Int) != 1) = true := bne_iff_ne.2 (by omega)
      clear hz
      generalize gm a k = g at *
      go_wp2_with fail
      refine c1.mono ?_
      rintro e w' ⟨rfl, rfl⟩
      clear c1
      go_wp2
      go_roundg (V - (k + 1))
      case measure => omega
      case rel => exact ⟨k + 1, by omega, by omega, by omega, by go_num, rfl⟩
    · obtain rfl : k = V := by omega
      rw [O.out] at c1
      go_wp2_with fail
      refine c1.mono ?_
      rintro e w' ⟨rfl, rfl⟩
      clear c1
      go_wp2
      go_ret
      exact ⟨rfl, rfl⟩

theorem refPow_zero (k : Nat) (hk : 0 < k) (w : World) : Calls Tryd.prog 36 #[.int .i64 0, .int .i64 k] w fun e w' => e = .returned (.int .i64 0) ∧ w' = w := by
  have hz : (0 : Int) < (k : Int) := by omega
  go_enter Tryd.func36, Tryd.ntmps36
  go_wp2
  go_ret
  exact ⟨rfl, rfl⟩

theorem refPow_some (a k : Nat) (ha : a < 16) (h0 : a ≠ 0 ∨ k = 0) (hk : k ≤ 9223372036854775807) (w : World) : Calls Tryd.prog 36 #[.int .i64 a, .int .i64 k] w fun e w' => e = .returned (.int .i64 (gp a (k % 15) : Nat)) ∧ w' = w := by
  have M : Hid (∀ (x : Nat) W, x < 16 → Calls Tryd.prog 30 #[.int .i64 x, .int .i64 a] W fun e w' => e = .returned (.int .i64 (gm x a : Nat)) ∧ w' = W) := fun x W hx => refMul_any x a hx ha W
  have L : Hid (∀ j, gp a j < 16) := gp_lt ha
  obtain ⟨m, hm⟩ : ∃ m, k % 15 = m := ⟨_, rfl⟩
  have hm15 : m < 15 := by omega
  have e1 : (k : Int).tmod 15 = (m : Int) := by rw [Int.tmod_eq_emod_of_nonneg (by omega)]; omega
  have e2 : (k : Int) % 15 = (m : Int) := by omega
  rw [hm]
  have g1 : ((a : Int) == 0 && decide ((0 : Int) < k)) = false := by
    rcases h0 with h | h
    · rw [show ((a : Int) == 0) = false from beq_eq_false_iff_ne.2 (by omega)]; rfl
    · subst h; simp
  clear hm
  go_enter Tryd.func36, Tryd.ntmps36
  rcases h0 with h | h
  · have b0 : ((a : Int) == 0) = false := beq_eq_false_iff_ne.2 (by omega)
    clear g1
    go_wp2
    go_loopg [5, 6] 15 (fun gg s5 s6 wr => ∃ j : Nat, j ≤ m ∧ m - j ≤ gg ∧ s5 = .int .i64 (gp a j : Nat) ∧ s6 = .int .i64 j ∧ wr = w)
    case atStart => exact ⟨0, Nat.zero_le _, by omega, rfl, rfl, rfl⟩
    case round =>
      obtain ⟨j, hj, hgg, rfl, rfl, rfl⟩ := hrel
      by_cases hlt : j < m
      · have hltz : (j : Int) < (m : Int) := by omega
        have c1 := M.out _ wr (L.out j)
        have nx : Hid (gm (gp a j) a = gp a (j + 1)) := rfl
        have l1 := L.out j
        generalize gp a j = P at *
        generalize gm P a = P2 at *
        go_wp2_with fail
        refine c1.mono ?_
        rintro e w' ⟨rfl, rfl⟩
        clear c1
        go_wp2
        go_roundg (m - (j + 1))
        case measure => omega
        case rel => exact ⟨j + 1, by omega, by omega, by rw [nx.out], by go_num, rfl⟩
      · obtain rfl : j = m := by omega
        go_wp2
        go_ret
        exact ⟨rfl, rfl⟩
  · subst h
    obtain rfl : m = 0 := by omega
    clear e1 e2 g1
    by_cases ha0 : a = 0
    · subst ha0
      go_wp2
      go_loopg [5, 6] 15 (fun gg s5 s6 wr => s5 = .int .i64 1 ∧ s6 = .int .i64 0 ∧ wr = w)
      case atStart => exact ⟨rfl, rfl, rfl⟩
      case round =>
        obtain ⟨rfl, rfl, rfl⟩ := hrel
        go_wp2
        go_ret
        exact ⟨rfl, rfl⟩
    · have b0 : ((a : Int) == 0) = false := beq_eq_false_iff_ne.2 (by omega)
      go_wp2
      go_loopg [5, 6] 15 (fun gg s5 s6 wr => s5 = .int .i64 1 ∧ s6 = .int .i64 0 ∧ wr = w)
      case atStart => exact ⟨rfl, rfl, rfl⟩
      case round =>
        obtain ⟨rfl, rfl, rfl⟩ := hrel
        go_wp2
        go_ret
        exact ⟨rfl, rfl⟩

theorem refPow_any (a k : Nat) (ha : a < 16) (hk : k ≤ 9223372036854775807) (w : World) : Calls Tryd.prog 36 #[.int .i64 a, .int .i64 k] w fun e w' => e = .returned (.int .i64 (gp a k : Nat)) ∧ w' = w := by
  by_cases h : a = 0 ∧ 0 < k
  · obtain ⟨rfl, hk0⟩ := h
    obtain ⟨j, rfl⟩ : ∃ j, k = j + 1 := ⟨k - 1, by omega⟩
    rw [gp_zero]
    exact refPow_zero _ hk0 w
  · have e : gp a k = gp a (k % 15) := by
      by_cases h0 : a = 0
      · obtain rfl : k = 0 := by omega
        rfl
      · exact gp_round ha h0 k
    rw [e]
    exact refPow_some a k ha (by omega) hk w

/-- Numbers as they lie in memory. -/
abbrev zl (l : List Nat) : List Int := List.map (fun (n : Nat) => (Nat.cast n : Int)) l

theorem zl_of {z : List Int} (h : ∀ x ∈ z, 0 ≤ x ∧ x ≤ 15) : ∃ l : List Nat, z = zl l ∧ ∀ c ∈ l, c < 16 := by
  refine ⟨z.map Int.toNat, ?_, ?_⟩
  · rw [zl, List.map_map]
    have : z.map ((fun n : Nat => (n : Int)) ∘ Int.toNat) = z.map id := List.map_congr_left fun x hx => by
      have := h x hx
      simp
      omega
    rw [this, List.map_id]
  · intro c hc
    obtain ⟨x, hx, rfl⟩ := List.mem_map.1 hc
    have := h x hx
    omega

theorem vl_next (x : Nat) (l : List Nat) (k : Nat) (hk : k < l.length) : vl x 0 (l.take (k + 1)) = vl x 0 (l.take k) ^^^ gm (l.getD k 0) (gp x k) := by
  have e : l.take (k + 1) = l.take k ++ [l.getD k 0] := by
    rw [List.take_add_one, List.getD_eq_getElem?_getD]
    simp [hk]
  rw [e, vl_append]
  have hl : (l.take k).length = k := by rw [List.length_take]; omega
  rw [hl, Nat.zero_add]
  show _ ^^^ (gm (l.getD k 0) (gp x k) ^^^ 0) = _
  rw [Nat.xor_zero]

theorem value_any (l : List Nat) (hl : ∀ c ∈ l, c < 16) (x : Nat) (hx : x < 16) (y : Nm) (hy : y.z = zl l) (w : World) (hw : Nums w y) :
    Calls Tryd.prog 31 #[y.v, .int .i64 x] w fun e w' => e = .returned (.int .i64 (vl x 0 l : Nat)) ∧ w' = w := by
  obtain ⟨h1, h2, _, b, o, h3, h4⟩ := hw
  have hlen : y.z.length = l.length := by rw [hy]; simp
  rw [hlen] at h1 h3 h4
  have HC : Hid (∀ i, i < l.length → w.cell? ⟨b, o + i, none⟩ = some (.int .i64 (l.getD i 0 : Nat))) := fun i hi => by
    rw [h4 i hi, hy]
    simp [zl, List.getD_eq_getElem?_getD, hi]
  have HB : Hid (∀ i, i < l.length → l.getD i 0 < 16) := fun i hi => by
    have := hl _ (List.getElem_mem (l := l) hi)
    simpa [List.getD_eq_getElem?_getD, hi] using this
  have HA : Hid (0 < l.length → y.a = some ⟨b, o, none⟩) := h3
  have NX : Hid (∀ k, k < l.length → vl x 0 (l.take (k + 1)) = vl x 0 (l.take k) ^^^ gm (l.getD k 0) (gp x k)) := fun k hk => vl_next x l k hk
  have VL : Hid (∀ k, vl x 0 (l.take k) < 16) := fun k => vl_lt hx 0 fun c hc => hl c (List.mem_of_mem_take hc)
  have fin : Hid (vl x 0 (l.take l.length) = vl x 0 l) := by rw [Hid, List.take_length]
  have z0 : Hid (vl x 0 (l.take 0) = 0) := rfl
  have PW : Hid (∀ (k : Nat) W, k ≤ 9223372036854775807 → Calls Tryd.prog 36 #[.int .i64 x, .int .i64 k] W fun e w' => e = .returned (.int .i64 (gp x k : Nat)) ∧ w' = W) := fun k W hk => refPow_any x k hx hk W
  have MU : Hid (∀ (c k : Nat) W, c < 16 → Calls Tryd.prog 30 #[.int .i64 c, .int .i64 (gp x k : Nat)] W fun e w' => e = .returned (.int .i64 (gm c (gp x k) : Nat)) ∧ w' = W) := fun c k W hc => refMul_any c _ hc (gp_lt hx k) W
  have ML : Hid (∀ c k : Nat, c < 16 → gm c (gp x k) < 16) := fun c k hc => gm_lt hc (gp_lt hx k)
  have PL : Hid (∀ k, gp x k < 16) := gp_lt hx
  unfold maxLen at h2
  clear h4 h3 hy
  simp only [Nm.v]
  rw [hlen]
  clear hlen
  obtain ⟨ya, yc, yz⟩ := y
  simp only at *
  generalize vl x 0 l = R at *
  have ⟨Z, hZ⟩ : ∃ Z : Nat → Nat, Z = fun i => l.getD i 0 := ⟨_, rfl⟩
  have ⟨V, hV⟩ : ∃ V : Nat → Nat, V = fun k => vl x 0 (l.take k) := ⟨_, rfl⟩
  have HC : Hid (∀ i, i < l.length → w.cell? ⟨b, o + i, none⟩ = some (.int .i64 (Z i : Nat))) := fun i hi => by rw [hZ]; exact HC.out i hi
  have HB : Hid (∀ i, i < l.length → Z i < 16) := fun i hi => by rw [hZ]; exact HB.out i hi
  have NX : Hid (∀ k, k < l.length → V (k + 1) = V k ^^^ gm (Z k) (gp x k)) := fun k hk => by rw [hV, hZ]; exact NX.out k hk
  have VL : Hid (∀ k, V k < 16) := fun k => by rw [hV]; exact VL.out k
  have fin : Hid (V l.length = R) := by rw [hV]; exact fin.out
  have z0 : Hid (V 0 = 0) := by rw [hV]; exact z0.out
  clear hZ hV hl
  generalize l.length = m at *
  clear yz
  go_enter Tryd.func31, Tryd.ntmps31
  go_wp2
  go_loopg [5, 6, 7, 10] m (fun gg s5 _ _ s10 wr => ∃ k : Nat, k ≤ m ∧ m - k ≤ gg ∧ s5 = .int .i64 (V k : Nat) ∧ s10 = .int .i64 k ∧ wr = w)
  case atStart => exact ⟨0, Nat.zero_le _, by omega, by rw [z0.out]; rfl, rfl, rfl⟩
  case round =>
    obtain ⟨k, hk, hgg, rfl, rfl, rfl⟩ := hrel
    by_cases hlt : k < m
    · have hltz : (k : Int) < (m : Int) := by omega
      have e1 := HC.out k hlt
      have b1 := HB.out k hlt
      obtain rfl := HA.out (by omega)
      have c1 := PW.out k wr (by omega)
      have c2 := MU.out (Z k) k wr b1
      have l2 := ML.out (Z k) k b1
      have l1 := VL.out k
      have nx := NX.out k hlt
      have e2 := xor_at (a := V k) (b := gm (Z k) (gp x k)) (by omega) (by omega)
      have NX' : Hid (V k ^^^ gm (Z k) (gp x k) = V (k + 1)) := nx.symm
      clear nx
      generalize V k ^^^ gm (Z k) (gp x k) = S at *
      generalize gm (Z k) (gp x k) = G at *
      generalize gp x k = P at *
      generalize Z k = c at *
      generalize V k = A at *
      go_wp2_with fail
      refine c1.mono ?_
      rintro e w' ⟨rfl, rfl⟩
      clear c1
      go_wp2_with fail
      refine c2.mono ?_
      rintro e w' ⟨rfl, rfl⟩
      clear c2
      go_wp2
      go_roundg (m - (k + 1))
      case measure => omega
      case rel => exact ⟨k + 1, by omega, by omega, by rw [← NX'.out], by go_num, rfl⟩
    · obtain rfl : k = m := by omega
      have f := fin.out
      rw [f]
      clear f fin
      go_wp2
      go_ret
      exact ⟨rfl, rfl⟩

end Go.Proofs.YtjdipgkdaloclaaDoor
