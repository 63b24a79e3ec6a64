/-
  quipuref.BookCheck.
-/
import Derived.Test.YtfcleenbhadfhacBw
namespace Go.Proofs.Ytfcleenbhadfhac
open Go.RowKit

theorem refBookOut_any (n : Int) (x : Um) (h : ¬ ((0 ≤ n ∧ n ≤ 12) ∧ x.z.length ≤ 64)) (hx : x.z.length ≤ maxLen) (w : World) : Calls Try.prog 23 #[.int .i64 n, x.v] w fun e w' => e = .returned (.int .i64 1) ∧ w' = w := by
  obtain ⟨a, c, g⟩ := x
  simp only at h hx
  unfold maxLen at hx
  simp only [Um.v]
  generalize g.length = l at *
  rcases Int.lt_or_le n 0 with h0 | h0
  · clear h
    go_enter Try.func23, Try.ntmps23
    go_wp2
    go_ret
    exact ⟨rfl, rfl⟩
  · rcases Int.lt_or_le 12 n with h1 | h1
    · clear h
      go_enter Try.func23, Try.ntmps23
      go_wp2
      go_ret
      exact ⟨rfl, rfl⟩
    · have hl : (l : Int) > 64 := by omega
      clear h
      go_enter Try.func23, Try.ntmps23
      go_wp2
      go_ret
      exact ⟨rfl, rfl⟩

theorem refBookIn_any (n : Nat) (hn : n ≤ 12) (x : Um) (hl : x.z.length ≤ 64) (hb : ∀ y ∈ x.z, y < 4294967296) (w : World) (hx : Us w x) : Calls Try.prog 23 #[.int .i64 n, x.v] w fun e w' => e = .returned (.int .i64 (bk (2 ^ n) x.z)) ∧ w' = w := by
  obtain ⟨a, c, g⟩ := x
  obtain ⟨h1, h2, _, b, o, h4, h5⟩ := hx
  simp only at hl hb h1 h2 h4 h5
  simp only [Um.v]
  unfold maxLen at h2
  have H5 : Hid (∀ i, i < g.length → w.cell? ⟨b, o + i, none⟩ = some (.int .u32 (g.getD i 0 : Nat))) := h5
  have HB : Hid (∀ i, i < g.length → g.getD i 0 < 4294967296) := fun i hi => by rw [getD_get hi]; exact hb _ (List.getElem_mem hi)
  have hit : Hid (∀ k, k < g.length → flt (2 ^ n) g k ≠ 0 → (∀ j, j < k → flt (2 ^ n) g j = 0) → bk (2 ^ n) g = flt (2 ^ n) g k) := fun k hk h h0 => bk_hit hk h h0
  have miss : Hid ((∀ j, j < g.length → flt (2 ^ n) g j = 0) → bk (2 ^ n) g = 0) := bk_miss
  have df : Hid (∀ k, k < g.length → flt (2 ^ n) g k = if 2 ^ n ≤ g.getD k 0 then 4 else if (∃ i, i < k ∧ g.getD i 0 = g.getD k 0) then 3 else 0) := fun k hk => by
    unfold flt
    simp only [mem_take_getD (Nat.le_of_lt hk)]
  have pw : (2 : Int) ^ n % 4294967296 = ((2 ^ n : Nat) : Int) := pow_in n (by omega)
  have hM : 2 ^ n ≤ 2 ^ 12 := Nat.pow_le_pow_right (by omega) hn
  generalize bk (2 ^ n) g = R at *
  generalize 2 ^ n = M at *
  clear h5 hb
  have L : ∃ m, g.length = m := ⟨_, rfl⟩
  obtain ⟨m, hm⟩ := L
  rw [hm] at hl h1 h4 H5 HB hit miss df ⊢
  clear hm
  go_enter Try.func23, Try.ntmps23
  go_wp2
  go_loopg [5, 6, 8, 22] m (fun gg _ _ _ s wr => ∃ k : Nat, k ≤ m ∧ m - k ≤ gg ∧ s = .int .i64 k ∧ Aside (∀ j, j < k → flt M g j = 0) ∧ wr = w)
  case atStart => exact ⟨0, Nat.zero_le _, by omega, rfl, fun i hi => absurd hi (Nat.not_lt_zero _), rfl⟩
  case round =>
    obtain ⟨k, hk, hgg, rfl, A, rfl⟩ := hrel
    by_cases hlt : k < m
    · have hltz : (k : Int) < (m : Int) := by omega
      have hkc : (k : Int) ≤ (c : Int) := by omega
      have e1 := H5.out k hlt
      have q1 := HB.out k hlt
      have ht : Hid (flt M g k ≠ 0 → R = flt M g k) := fun h => hit.out k hlt h A.out
      have go : Hid (flt M g k = 0 → ∀ j, j < k + 1 → flt M g j = 0) := fun h i hi => by
        rcases Nat.lt_succ_iff_lt_or_eq.1 hi with h' | rfl
        · exact A.out i h'
        · exact h
      have d1 := df.out k hlt
      obtain rfl := h4 (by omega)
      have H5' : Hid (∀ i, i < k → wr.cell? ⟨b, o + i, none⟩ = some (.int .u32 (g.getD i 0 : Nat))) := fun i hi => H5.out i (by omega)
      clear h4 H5 hit miss df
      generalize hy : g.getD k 0 = y at *
      clear hy
      generalize flt M g k = F at *
      rcases Nat.lt_or_ge y M with h | h
      · rw [if_neg (by omega)] at d1
        have hz : (y : Int) < (M : Int) := by omega
        have yes : Hid ((∃ i, i < k ∧ g.getD i 0 = y) → R = 3) := fun h => by
          rw [if_pos h] at d1
          rw [ht.out (by omega), d1]
        have no : Hid ((¬ ∃ i, i < k ∧ g.getD i 0 = y) → ∀ j, j < k + 1 → flt M g j = 0) := fun h => by
          rw [if_neg h] at d1
          exact go.out d1
        clear ht go d1
        go_wp2
        go_loopg [8, 36] k (fun gg _ s wr2 => ∃ i : Nat, i ≤ k ∧ k - i ≤ gg ∧ s = .int .i64 i ∧ Aside (∀ j, j < i → g.getD j 0 ≠ y) ∧ wr2 = wr)
        case atStart => exact ⟨0, Nat.zero_le _, by omega, rfl, fun i hi => absurd hi (Nat.not_lt_zero _), rfl⟩
        case round =>
          obtain ⟨i, hi, hgi, rfl, AI, rfl⟩ := hrel
          by_cases hil : i < k
          · have hilz : (i : Int) < (k : Int) := by omega
            have e2 := H5'.out i hil
            have y1 : Hid (g.getD i 0 = y → R = 3) := fun h => yes.out ⟨i, hil, h⟩
            have n1 : Hid (g.getD i 0 ≠ y → ∀ j, j < i + 1 → g.getD j 0 ≠ y) := fun h j hj => by
              rcases Nat.lt_succ_iff_lt_or_eq.1 hj with h' | rfl
              · exact AI.out j h'
              · exact h
            generalize g.getD i 0 = v at *
            clear yes no
            by_cases hv : v = y
            · have hvz : ((v : Int) == (y : Int)) = true := by rw [hv]; exact beq_self_eq_true _
              have e := y1.out hv
              clear y1 n1 hv
              go_wp2
              go_ret
              exact ⟨by rw [e]; rfl, rfl⟩
            · have hvz : ((v : Int) == (y : Int)) = false := by rw [beq_eq_false_iff_ne]; omega
              have f := n1.out hv
              have G : Aside (∀ j, j < i + 1 → g.getD j 0 ≠ y) := f
              clear y1 n1 hv f
              go_wp2
              go_roundg (k - (i + 1))
              case measure => omega
              case rel => exact ⟨i + 1, by omega, by omega, by go_num, G.out, rfl⟩
          · have f := no.out (fun ⟨j, hj, h⟩ => AI.out j (by omega) h)
            have G : Aside (∀ j, j < k + 1 → flt M g j = 0) := f
            clear yes no f
            go_wp2
            go_roundg (m - (k + 1))
            case measure => omega
            case rel => exact ⟨k + 1, by omega, by omega, by go_num, G.out, rfl⟩
      · rw [if_pos h] at d1
        have hz : (M : Int) ≤ (y : Int) := by omega
        have e := ht.out (by omega)
        rw [d1] at e
        clear ht go d1
        go_wp2
        go_ret
        exact ⟨by rw [e]; rfl, rfl⟩
    · have e := miss.out (fun j hj => A.out j (by omega))
      clear H5 HB hit miss df
      go_wp2
      go_ret
      exact ⟨by rw [e]; rfl, rfl⟩

theorem refBook_any (n : Int) (x : Um) (hb : ∀ y ∈ x.z, y < 4294967296) (w : World) (hx : Us w x) : Calls Try.prog 23 #[.int .i64 n, x.v] w fun e w' => e = .returned (.int .i64 (bke n x.z)) ∧ w' = w := by
  by_cases h : (0 ≤ n ∧ n ≤ 12) ∧ x.z.length ≤ 64
  · obtain ⟨m, rfl⟩ : ∃ m : Nat, n = m := ⟨n.toNat, by omega⟩
    rw [bke_nat (by omega) h.2]
    exact refBookIn_any m (by omega) x h.2 hb w hx
  · rw [bke_out h]
    exact refBookOut_any n x h (Nat.le_trans hx.1 hx.2.1) w

end Go.Proofs.Ytfcleenbhadfhac
