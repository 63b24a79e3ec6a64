/-
  Numbers asked whether they are from 0 to 15: field.check, quipuref.FieldCheck, quipukeep.numbers.
-/
import Derived.Test.YtjdipgkdaloclaaDoorOwn
import Derived.Shelf.Abstract
namespace Go.Proofs.YtjdipgkdaloclaaDoor
open Go.RowKit

/-- What is told of numbers. -/
def fe (z : List Int) : Int := if ∀ x ∈ z, 0 ≤ x ∧ x ≤ 15 then 0 else 4
theorem fe_good {z : List Int} (h : ∀ x ∈ z, 0 ≤ x ∧ x ≤ 15) : fe z = 0 := if_pos h
theorem fe_bad {z : List Int} (h : ¬ ∀ x ∈ z, 0 ≤ x ∧ x ≤ 15) : fe z = 4 := if_neg h
theorem fe_zero {z : List Int} (h : fe z = 0) : ∀ x ∈ z, 0 ≤ x ∧ x ≤ 15 := by
  unfold fe at h
  by_cases c : ∀ x ∈ z, 0 ≤ x ∧ x ≤ 15
  · exact c
  · rw [if_neg c] at h; omega
theorem fe_or (z : List Int) : fe z = 0 ∨ fe z = 4 := by
  unfold fe
  split
  · exact .inl rfl
  · exact .inr rfl

theorem refCheck_any (x : Nm) (w : World) (hx : Nums w x) : Calls Tryd.prog 7 #[x.v] w fun e w' => e = .returned (.int .i64 (fe x.z)) ∧ w' = w := by
  obtain ⟨h1, h2, _, b, o, h3, h4⟩ := hx
  have fin : Hid ((∀ i, i < x.z.length → 0 ≤ x.z.getD i 0 ∧ x.z.getD i 0 ≤ 15) → fe x.z = 0) := fun h => fe_good (by
    intro y hy
    obtain ⟨i, hi, rfl⟩ := List.mem_iff_getElem.1 hy
    have := h i hi
    simpa [List.getD_eq_getElem?_getD, hi] using this)
  have bad : Hid (∀ i, i < x.z.length → ¬ (0 ≤ x.z.getD i 0 ∧ x.z.getD i 0 ≤ 15) → fe x.z = 4) := fun i hi h => fe_bad (fun h' => h (by
    have := h' _ (List.getElem_mem (l := x.z) (n := i) hi)
    simpa [List.getD_eq_getElem?_getD, hi] using this))
  have HC : Hid (∀ i, i < x.z.length → w.cell? ⟨b, o + i, none⟩ = some (.int .i64 (x.z.getD i 0))) := h4
  have HA : Hid (0 < x.z.length → x.a = some ⟨b, o, none⟩) := h3
  unfold maxLen at h2
  have hm : x.z.length ≤ 9223372036854775807 := by omega
  clear h4 h3 h1 h2
  simp only [Nm.v]
  generalize fe x.z = R at *
  obtain ⟨xa, xc, xz⟩ := x
  simp only at *
  have ⟨Z, hZ⟩ : ∃ Z : Nat → Int, Z = fun i => xz.getD i 0 := ⟨_, rfl⟩
  have HC : Hid (∀ i, i < xz.length → w.cell? ⟨b, o + i, none⟩ = some (.int .i64 (Z i))) := fun i hi => by rw [hZ]; exact HC.out i hi
  have fin : Hid ((∀ i, i < xz.length → 0 ≤ Z i ∧ Z i ≤ 15) → R = 0) := fun h => fin.out (by rw [hZ] at h; exact h)
  have bad : Hid (∀ i, i < xz.length → ¬ (0 ≤ Z i ∧ Z i ≤ 15) → R = 4) := fun i hi h => bad.out i hi (by rw [hZ] at h; exact h)
  clear hZ
  generalize xz.length = m at *
  go_enter Tryd.func7, Tryd.ntmps7
  go_wp2
  go_loopg [4, 7] m (fun gg _ s wr => ∃ k : Nat, k ≤ m ∧ m - k ≤ gg ∧ s = .int .i64 k ∧ Aside (∀ i, i < k → 0 ≤ Z i ∧ Z i ≤ 15) ∧ wr = w)
  case atStart => exact ⟨0, Nat.zero_le _, by omega, rfl, fun i hi => absurd hi (Nat.not_lt_zero _), rfl⟩
  case round =>
    obtain ⟨k, hk, hgg, rfl, A, rfl⟩ := hrel
    by_cases hlt : k < m
    · have hltz : (k : Int) < (m : Int) := by omega
      have e1 := HC.out k hlt
      obtain rfl := HA.out (by omega)
      have bd := bad.out k hlt
      have go : Aside (0 ≤ Z k ∧ Z k ≤ 15 → ∀ i, i < k + 1 → 0 ≤ Z i ∧ Z i ≤ 15) := fun h i hi => by
        rcases Nat.lt_succ_iff_lt_or_eq.1 hi with h' | rfl
        · exact A.out i h'
        · exact h
      generalize Z k = y at *
      rcases Int.lt_or_le y 0 with h0 | h0
      · obtain rfl := bd (by omega)
        clear fin bad go bd
        go_wp2
        go_ret
        exact ⟨rfl, rfl⟩
      · rcases Int.lt_or_le 15 y with h5 | h5
        · obtain rfl := bd (by omega)
          clear fin bad go bd
          go_wp2
          go_ret
          exact ⟨rfl, rfl⟩
        · have go2 : Aside (∀ i, i < k + 1 → 0 ≤ Z i ∧ Z i ≤ 15) := go.out ⟨h0, h5⟩
          have h6 : y < 16 := by omega
          clear go bd
          go_wp2
          go_roundg (m - (k + 1))
          case measure => omega
          case rel => exact ⟨k + 1, by omega, by omega, by go_num, go2.out, rfl⟩
    · obtain rfl := fin.out (fun i hi => A.out i (by omega))
      clear fin bad
      go_wp2
      go_ret
      exact ⟨rfl, rfl⟩

theorem check_any (x : Nm) (w : World) (hx : Nums w x) : Calls Tryd.prog 13 #[x.v] w fun e w' => e = .returned (.int .i64 (fe x.z)) ∧ w' = w := by
  obtain ⟨h1, h2, _, b, o, h3, h4⟩ := hx
  have fin : Hid ((∀ i, i < x.z.length → 0 ≤ x.z.getD i 0 ∧ x.z.getD i 0 ≤ 15) → fe x.z = 0) := fun h => fe_good (by
    intro y hy
    obtain ⟨i, hi, rfl⟩ := List.mem_iff_getElem.1 hy
    have := h i hi
    simpa [List.getD_eq_getElem?_getD, hi] using this)
  have bad : Hid (∀ i, i < x.z.length → ¬ (0 ≤ x.z.getD i 0 ∧ x.z.getD i 0 ≤ 15) → fe x.z = 4) := fun i hi h => fe_bad (fun h' => h (by
    have := h' _ (List.getElem_mem (l := x.z) (n := i) hi)
    simpa [List.getD_eq_getElem?_getD, hi] using this))
  have HC : Hid (∀ i, i < x.z.length → w.cell? ⟨b, o + i, none⟩ = some (.int .i64 (x.z.getD i 0))) := h4
  have HA : Hid (0 < x.z.length → x.a = some ⟨b, o, none⟩) := h3
  unfold maxLen at h2
  have hm : x.z.length ≤ 9223372036854775807 := by omega
  clear h4 h3 h1 h2
  simp only [Nm.v]
  generalize fe x.z = R at *
  obtain ⟨xa, xc, xz⟩ := x
  simp only at *
  have ⟨Z, hZ⟩ : ∃ Z : Nat → Int, Z = fun i => xz.getD i 0 := ⟨_, rfl⟩
  have HC : Hid (∀ i, i < xz.length → w.cell? ⟨b, o + i, none⟩ = some (.int .i64 (Z i))) := fun i hi => by rw [hZ]; exact HC.out i hi
  have fin : Hid ((∀ i, i < xz.length → 0 ≤ Z i ∧ Z i ≤ 15) → R = 0) := fun h => fin.out (by rw [hZ] at h; exact h)
  have bad : Hid (∀ i, i < xz.length → ¬ (0 ≤ Z i ∧ Z i ≤ 15) → R = 4) := fun i hi h => bad.out i hi (by rw [hZ] at h; exact h)
  clear hZ
  generalize xz.length = m at *
  go_enter Tryd.func13, Tryd.ntmps13
  go_wp2
  go_loopg [4, 7] m (fun gg _ s wr => ∃ k : Nat, k ≤ m ∧ m - k ≤ gg ∧ s = .int .i64 k ∧ Aside (∀ i, i < k → 0 ≤ Z i ∧ Z i ≤ 15) ∧ wr = w)
  case atStart => exact ⟨0, Nat.zero_le _, by omega, rfl, fun i hi => absurd hi (Nat.not_lt_zero _), rfl⟩
  case round =>
    obtain ⟨k, hk, hgg, rfl, A, rfl⟩ := hrel
    by_cases hlt : k < m
    · have hltz : (k : Int) < (m : Int) := by omega
      have e1 := HC.out k hlt
      obtain rfl := HA.out (by omega)
      have bd := bad.out k hlt
      have go : Aside (0 ≤ Z k ∧ Z k ≤ 15 → ∀ i, i < k + 1 → 0 ≤ Z i ∧ Z i ≤ 15) := fun h i hi => by
        rcases Nat.lt_succ_iff_lt_or_eq.1 hi with h' | rfl
        · exact A.out i h'
        · exact h
      generalize Z k = y at *
      rcases Int.lt_or_le y 0 with h0 | h0
      · obtain rfl := bd (by omega)
        clear fin bad go bd
        go_wp2
        go_ret
        exact ⟨rfl, rfl⟩
      · rcases Int.lt_or_le 15 y with h5 | h5
        · obtain rfl := bd (by omega)
          clear fin bad go bd
          go_wp2
          go_ret
          exact ⟨rfl, rfl⟩
        · have go2 : Aside (∀ i, i < k + 1 → 0 ≤ Z i ∧ Z i ≤ 15) := go.out ⟨h0, h5⟩
          have h6 : y < 16 := by omega
          clear go bd
          go_wp2
          go_roundg (m - (k + 1))
          case measure => omega
          case rel => exact ⟨k + 1, by omega, by omega, by go_num, go2.out, rfl⟩
    · obtain rfl := fin.out (fun i hi => A.out i (by omega))
      clear fin bad
      go_wp2
      go_ret
      exact ⟨rfl, rfl⟩

end Go.Proofs.YtjdipgkdaloclaaDoor
