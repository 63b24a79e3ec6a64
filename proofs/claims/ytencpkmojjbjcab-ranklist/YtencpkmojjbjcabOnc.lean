/-
  quipuref.Once.
-/
import Derived.Test.YtencpkmojjbjcabOr
namespace Go.Proofs.Ytencpkmojjbjcab
open Go.RowKit

theorem once_yes {z : List Int} {n : Nat} (hz : z.length = n) (h : ∀ i, i < n → (0 ≤ z.getD i 0 ∧ z.getD i 0 < n) ∧ ∀ j, j < i → z.getD i 0 ≠ z.getD j 0) : Each z := by
  apply each_of_once
  · unfold List.Nodup
    rw [List.pairwise_iff_getElem]
    intro i j hi hj hij e
    have := (h j (by omega)).2 i hij
    simp [List.getD_eq_getElem?_getD, hi, hj] at this
    exact this e.symm
  · intro x hx
    obtain ⟨i, hi, rfl⟩ := mem_iff_getD.1 hx
    have := (h i (by omega)).1
    omega

theorem once_range {z : List Int} {n k : Nat} (hz : z.length = n) (hk : k < n) (h : z.getD k 0 < 0 ∨ (n : Int) ≤ z.getD k 0) : ¬ Each z := fun he => by
  have := he.mem.1 (mem_iff_getD.2 ⟨k, by omega, rfl⟩)
  omega
theorem once_twice {z : List Int} {n k j : Nat} (hz : z.length = n) (hk : k < n) (hj : j < k) (h : z.getD k 0 = z.getD j 0) : ¬ Each z := fun he => by
  have hd := he.nodup
  unfold List.Nodup at hd
  rw [List.pairwise_iff_getElem] at hd
  have := hd j k (by omega) (by omega) hj
  simp [List.getD_eq_getElem?_getD, (show k < z.length by omega), (show j < z.length by omega)] at h
  exact this h.symm

theorem once_any (a : Option Addr) (b o n c : Nat) (z : List Int) (w : World) (hz : z.length = n) (hn : n ≤ 8) (hc : n ≤ c) (hcm : c ≤ maxLen) (ha : 0 < n → a = some ⟨b, o, none⟩) (h : At w b o z) :
    Calls Try.prog 9 #[.slice a n c] w fun e w' => (∃ r : Bool, e = .returned (.bool r) ∧ (r = true ↔ Each z)) ∧ w' = w := by
  have HA : Hid (At w b o z) := h
  have HZ : Hid (z.length = n) := hz
  have HH : Hid (0 < n → a = some ⟨b, o, none⟩) := ha
  have yes : Hid ((∀ i, i < n → (0 ≤ z.getD i 0 ∧ z.getD i 0 < n) ∧ ∀ j, j < i → z.getD i 0 ≠ z.getD j 0) → Each z) := fun h => once_yes hz h
  have no1 : Hid (∀ k, k < n → z.getD k 0 < 0 ∨ (n : Int) ≤ z.getD k 0 → ¬ Each z) := fun k hk h => once_range hz hk h
  have no2 : Hid (∀ k j, k < n → j < k → z.getD k 0 = z.getD j 0 → ¬ Each z) := fun k j hk hj h => once_twice hz hk hj h
  clear h hz ha
  unfold maxLen at hcm
  go_enter Try.func9, Try.ntmps9
  go_wp2
  go_loopg [9] n (fun gg s wr => ∃ k : Nat, k ≤ n ∧ n - k ≤ gg ∧ s = .int .i64 k ∧ wr = w ∧ Aside (∀ i, i < k → (0 ≤ z.getD i 0 ∧ z.getD i 0 < n) ∧ ∀ j, j < i → z.getD i 0 ≠ z.getD j 0))
  case atStart => exact ⟨0, Nat.zero_le _, by omega, rfl, rfl, fun j hj => absurd hj (Nat.not_lt_zero _)⟩
  case round =>
    obtain ⟨k, hk, hg, rfl, rfl, A⟩ := hrel
    by_cases hlt : k < n
    · have hltz : (k : Int) < (n : Int) := by omega
      obtain rfl := HH.out (by omega)
      have e1 := HA.out k (by rw [HZ.out]; exact hlt)
      have n1 : Hid (z.getD k 0 < 0 ∨ (n : Int) ≤ z.getD k 0 → ¬ Each z) := no1.out k hlt
      have n2 : Hid (∀ j, j < k → z.getD k 0 = z.getD j 0 → ¬ Each z) := fun j hj h => no2.out k j hlt hj h
      have go : Hid (0 ≤ z.getD k 0 → z.getD k 0 < n → (∀ j, j < k → z.getD k 0 ≠ z.getD j 0) → ∀ i, i < k + 1 → (0 ≤ z.getD i 0 ∧ z.getD i 0 < n) ∧ ∀ j, j < i → z.getD i 0 ≠ z.getD j 0) := fun h1 h2 h3 i hi => by
        rcases Nat.lt_succ_iff_lt_or_eq.1 hi with h' | rfl
        · exact A.out i h'
        · exact ⟨⟨h1, h2⟩, h3⟩
      clear A no1 no2 HH
      generalize z.getD k 0 = y at *
      rcases Int.lt_or_le y 0 with h0 | h0
      · have ne := n1.out (Or.inl h0)
        clear n1 n2 go yes
        go_wp2
        go_ret
        exact ⟨⟨false, rfl, ⟨fun h => absurd h (by decide), fun h => absurd h ne⟩⟩, rfl⟩
      · rcases Int.lt_or_le y (n : Int) with h1 | h1
        · clear n1
          go_wp2
          go_loopg [26] k (fun gg s wr' => ∃ j : Nat, j ≤ k ∧ k - j ≤ gg ∧ s = .int .i64 j ∧ wr' = wr ∧ Aside (∀ i, i < j → y ≠ z.getD i 0))
          case atStart => exact ⟨0, Nat.zero_le _, by omega, rfl, rfl, fun j hj => absurd hj (Nat.not_lt_zero _)⟩
          case round =>
            obtain ⟨j, hj, hgj, rfl, rfl, B⟩ := hrel
            by_cases hjlt : j < k
            · have hjz : (j : Int) < (k : Int) := by omega
              have e2 := HA.out j (by rw [HZ.out]; omega)
              have m2 : Hid (y = z.getD j 0 → ¬ Each z) := n2.out j hjlt
              have go2 : Hid (y ≠ z.getD j 0 → ∀ i, i < j + 1 → y ≠ z.getD i 0) := fun h i hi => by
                rcases Nat.lt_succ_iff_lt_or_eq.1 hi with h' | rfl
                · exact B.out i h'
                · exact h
              clear B n2
              generalize z.getD j 0 = x at *
              by_cases hq : y = x
              · have ne := m2.out hq
                subst hq
                clear m2 go2 go yes
                go_wp2
                go_ret
                exact ⟨⟨false, rfl, ⟨fun h => absurd h (by decide), fun h => absurd h ne⟩⟩, rfl⟩
              · have hq' : (y == x) = false := by rw [beq_eq_false_iff_ne]; exact hq
                have go3 : Hid (∀ i, i < j + 1 → y ≠ z.getD i 0) := go2.out hq
                clear go2 m2
                go_wp2
                go_roundg (k - (j + 1))
                case measure => omega
                case rel => exact ⟨j + 1, by omega, by omega, by go_num, rfl, go3.out⟩
            · have fin : Hid (∀ i, i < k + 1 → (0 ≤ z.getD i 0 ∧ z.getD i 0 < n) ∧ ∀ j, j < i → z.getD i 0 ≠ z.getD j 0) := go.out h0 h1 (fun i hi => B.out i (by omega))
              clear go n2 B
              go_wp2
              go_roundg (n - (k + 1))
              case measure => omega
              case rel => exact ⟨k + 1, by omega, by omega, by go_num, rfl, fin.out⟩
        · have ne := n1.out (Or.inr h1)
          clear n1 n2 go yes
          go_wp2
          go_ret
          exact ⟨⟨false, rfl, ⟨fun h => absurd h (by decide), fun h => absurd h ne⟩⟩, rfl⟩
    · have he := yes.out (fun i hi => A.out i (by omega))
      clear yes no1 no2
      go_wp2
      go_ret
      exact ⟨⟨true, rfl, ⟨fun _ => he, fun _ => rfl⟩⟩, rfl⟩
end Go.Proofs.Ytencpkmojjbjcab
