/-
  What is told of rows: ball.CheckWords and quipuref.BitsCheck of a list that is handed in; span.checkRows, quipuref.RowsCheck, quipukeep.rowed.
-/
import Derived.Test.YtabjliijojidmaaCw
namespace Go.Proofs.Ytabjliijojidmaa
open Go.RowKit

theorem checkUs_in (n : Nat) (hn : n ≤ 12) (a : Option Addr) (g : List Nat) (hl : g.length ≤ 1000) (hg : ∀ x ∈ g, x < 4294967296) (b o c : Nat) (w : World) (ha : 0 < g.length → a = some ⟨b, o, none⟩) (hcell : ∀ i, i < g.length → w.cell? ⟨b, o + i, none⟩ = some (.int .u32 (g.getD i 0 : Nat))) :
    Calls Try.prog 25 #[.int .i64 n, .slice a g.length c] w fun e w' => e = .returned (.int .i64 (ce n g)) ∧ w' = w := by
  have HC : Hid (∀ i, i < g.length → w.cell? ⟨b, o + i, none⟩ = some (.int .u32 (g.getD i 0 : Nat))) := hcell
  have HB : Hid (∀ i, i < g.length → g.getD i 0 < 4294967296) := fun i hi => by
    have := hg _ (List.getElem_mem hi)
    simpa [List.getD_eq_getElem?_getD, hi] using this
  have LN : Hid (∀ (x : Nat) W, x < 4294967296 → Calls Try.prog 29 #[.int .u32 (x : Nat)] W fun e w' => e = .returned (.int .i64 (Lib.bitLen x : Nat)) ∧ w' = W) := fun x W hx => len32_any x hx W
  have AB : Hid (∀ x, x < 4294967296 → (n < Lib.bitLen x ↔ 2 ^ n ≤ x)) := fun x hx => bitLen_above (by omega) hx
  rw [ce_nat hn]
  generalize 2 ^ n = M at *
  have fin : Hid ((∀ i, i < g.length → g.getD i 0 < M) → (if (∀ x ∈ g, x < M) then (0 : Int) else 4) = 0) := fun h => if_pos (by
    intro x hx
    obtain ⟨i, hi, rfl⟩ := List.mem_iff_getElem.1 hx
    have := h i (by omega)
    simpa [List.getD_eq_getElem?_getD, hi] using this)
  have bad : Hid (∀ i, i < g.length → M ≤ g.getD i 0 → (if (∀ x ∈ g, x < M) then (0 : Int) else 4) = 4) := fun i hi h => if_neg (fun h' => by
    have := h' _ (List.getElem_mem (l := g) (n := i) (by omega))
    simp [List.getD_eq_getElem?_getD, hi] at h
    omega)
  generalize (if (∀ x ∈ g, x < M) then (0 : Int) else 4) = R at *
  clear hcell hg
  generalize g.length = m at *
  go_enter Try.func25, Try.ntmps25
  go_wp2
  go_loopg [6, 15] m (fun gg _ s wr => ∃ k : Nat, k ≤ m ∧ m - k ≤ gg ∧ s = .int .i64 k ∧ Aside (∀ i, i < k → g.getD i 0 < M) ∧ wr = w)
  case atStart => exact ⟨0, Nat.zero_le _, by omega, rfl, fun i hi => absurd hi (Nat.not_lt_zero _), rfl⟩
  case round =>
    obtain ⟨k, hk, hgg, rfl, A, rfl⟩ := hrel
    by_cases hlt : k < m
    · have hltz : (k : Int) < (m : Int) := by omega
      obtain rfl := ha (by omega)
      have e1 := HC.out k hlt
      have b1 := HB.out k hlt
      have c1 := LN.out _ wr b1
      have ab := AB.out _ b1
      have go : Aside (g.getD k 0 < M → ∀ i, i < k + 1 → g.getD i 0 < M) := fun h i hi => by
        rcases Nat.lt_succ_iff_lt_or_eq.1 hi with h' | rfl
        · exact A.out i h'
        · exact h
      have bd : Hid (M ≤ g.getD k 0 → R = 4) := bad.out k hlt
      generalize g.getD k 0 = y at *
      generalize Lib.bitLen y = L at *
      rcases Nat.lt_or_ge y M with h | h
      · have hz : ¬ (L : Int) > (n : Int) := by omega
        have go' := go.out h
        clear go bd ab
        have go2 : Aside (∀ i, i < k + 1 → g.getD i 0 < M) := go'
        clear go'
        go_wp2_with fail
        refine c1.mono ?_
        rintro e w' ⟨rfl, rfl⟩
        clear c1
        go_wp2
        go_roundg (m - (k + 1))
        case measure => omega
        case rel => exact ⟨k + 1, by omega, by omega, by go_num, go2.out, rfl⟩
      · have hz : (L : Int) > (n : Int) := by omega
        have e := bd.out h
        clear go bd ab
        go_wp2_with fail
        refine c1.mono ?_
        rintro e' w' ⟨rfl, rfl⟩
        clear c1
        go_wp2
        go_ret
        exact ⟨by first | rfl | (rw [e]; rfl), rfl⟩
    · have e := fin.out (fun i hi => A.out i (by omega))
      clear fin bad
      go_wp2
      go_ret
      exact ⟨by first | rfl | (rw [e]; rfl), rfl⟩

theorem bitsUs_in (n : Nat) (hn : n ≤ 12) (a : Option Addr) (b o m c : Nat) (g : List Nat) (hg : g.length = m) (hm : m ≤ 1000) (w : World) (ha : 0 < m → a = some ⟨b, o, none⟩) (hc : ∀ i, i < m → w.cell? ⟨b, o + i, none⟩ = some (.int .u32 (g.getD i 0))) (hb : ∀ i, i < m → g.getD i 0 < 4294967296) :
    Calls Try.prog 23 #[.int .i64 n, .slice a m c] w fun e w' => e = .returned (.int .i64 (if (∀ x ∈ g, x < 2 ^ n) then 0 else 4)) ∧ w' = w := by
  have pw : (2 : Int) ^ n % 4294967296 = ((2 ^ n : Nat) : Int) := pow_in n (by omega)
  have hM : 2 ^ n ≤ 2 ^ 12 := Nat.pow_le_pow_right (by omega) hn
  generalize 2 ^ n = M at *
  have HC : Hid (∀ i, i < m → w.cell? ⟨b, o + i, none⟩ = some (.int .u32 (g.getD i 0))) := hc
  have HB : Hid (∀ i, i < m → g.getD i 0 < 4294967296) := hb
  clear hc hb
  have fin : Hid ((∀ i, i < m → g.getD i 0 < M) → (if (∀ x ∈ g, x < M) then (0 : Int) else 4) = 0) := fun h => if_pos (by
    intro x hx
    obtain ⟨i, hi, rfl⟩ := List.mem_iff_getElem.1 hx
    have := h i (by omega)
    simpa [List.getD_eq_getElem?_getD, hi] using this)
  have bad : Hid (∀ i, i < m → M ≤ g.getD i 0 → (if (∀ x ∈ g, x < M) then (0 : Int) else 4) = 4) := fun i hi h => if_neg (fun h' => by
    have := h' _ (List.getElem_mem (l := g) (n := i) (by omega))
    simp [List.getD_eq_getElem?_getD, (show i < g.length by omega)] at h
    omega)
  generalize (if (∀ x ∈ g, x < M) then (0 : Int) else 4) = R at *
  go_enter Try.func23, Try.ntmps23
  go_wp2
  go_loopg [6, 15] m (fun gg _ s wr => ∃ k : Nat, k ≤ m ∧ m - k ≤ gg ∧ s = .int .i64 k ∧ Aside (∀ i, i < k → g.getD i 0 < M) ∧ wr = w)
  case atStart => exact ⟨0, Nat.zero_le _, by omega, rfl, fun i hi => absurd hi (Nat.not_lt_zero _), rfl⟩
  case round =>
    obtain ⟨k, hk, hgg, rfl, A, rfl⟩ := hrel
    by_cases hlt : k < m
    · have hltz : (k : Int) < (m : Int) := by omega
      obtain rfl := ha (by omega)
      have e1 := HC.out k hlt
      have b1 := HB.out k hlt
      have go : Aside (g.getD k 0 < M → ∀ i, i < k + 1 → g.getD i 0 < M) := fun h i hi => by
        rcases Nat.lt_succ_iff_lt_or_eq.1 hi with h' | rfl
        · exact A.out i h'
        · exact h
      have bd : Hid (M ≤ g.getD k 0 → R = 4) := bad.out k hlt
      generalize g.getD k 0 = y at *
      rcases Nat.lt_or_ge y M with h | h
      · have hz : (y : Int) < (M : Int) := by omega
        have go' := go.out h
        clear go bd
        have go2 : Aside (∀ i, i < k + 1 → g.getD i 0 < M) := go'
        clear go'
        go_wp2
        go_roundg (m - (k + 1))
        case measure => omega
        case rel => exact ⟨k + 1, by omega, by omega, by go_num, go2.out, rfl⟩
      · have hz : (M : Int) ≤ (y : Int) := by omega
        have e := bd.out h
        clear go bd
        go_wp2
        go_ret
        exact ⟨by first | rfl | (rw [e]; rfl), rfl⟩
    · have e := fin.out (fun i hi => A.out i (by omega))
      clear fin bad
      go_wp2
      go_ret
      exact ⟨by first | rfl | (rw [e]; rfl), rfl⟩

/-- What is told of rows. -/
def re (n : Int) (g : List Nat) : Int := if g.length ≤ 8 then ce n g else 1
theorem re_zero {n : Int} {g : List Nat} (h : re n g = 0) : ∃ m : Nat, n = m ∧ m ≤ 12 ∧ g.length ≤ 8 ∧ ∀ x ∈ g, x < 2 ^ m := by
  unfold re at h
  by_cases c : g.length ≤ 8
  · rw [if_pos c] at h
    obtain ⟨m, h1, h2, h3⟩ := ce_zero h
    exact ⟨m, h1, h2, c, h3⟩
  · rw [if_neg c] at h; omega
theorem re_good {n : Nat} (hn : n ≤ 12) {g : List Nat} (hl : g.length ≤ 8) (h : ∀ x ∈ g, x < 2 ^ n) : re n g = 0 := by
  unfold re
  rw [if_pos hl, ce_good hn h]

theorem checkUs_any (n : Int) (x : Um) (hl : x.z.length ≤ 8) (hb : ∀ y ∈ x.z, y < 4294967296) (w : World) (hx : Us w x) :
    Calls Try.prog 25 #[.int .i64 n, x.v] w fun e w' => e = .returned (.int .i64 (ce n x.z)) ∧ w' = w := by
  by_cases hn : 0 ≤ n ∧ n ≤ 12
  · obtain ⟨m, rfl⟩ : ∃ m : Nat, n = m := ⟨n.toNat, by omega⟩
    obtain ⟨a, c, g⟩ := x
    obtain ⟨h1, h2, _, b, o, h4, h5⟩ := hx
    exact checkUs_in m (by omega) a g (by simp only at hl; omega) hb b o c w h4 h5
  · rw [ce_out hn]
    exact checkOut_any n hn _ _ _ _
theorem bitsUs_any (n : Int) (x : Um) (hl : x.z.length ≤ 8) (hb : ∀ y ∈ x.z, y < 4294967296) (w : World) (hx : Us w x) :
    Calls Try.prog 23 #[.int .i64 n, x.v] w fun e w' => e = .returned (.int .i64 (ce n x.z)) ∧ w' = w := by
  by_cases hn : 0 ≤ n ∧ n ≤ 12
  · obtain ⟨m, rfl⟩ : ∃ m : Nat, n = m := ⟨n.toNat, by omega⟩
    obtain ⟨a, c, g⟩ := x
    obtain ⟨h1, h2, _, b, o, h4, h5⟩ := hx
    rw [ce_nat (by omega)]
    exact bitsUs_in m (by omega) a b o g.length c g rfl (by simp only at hl; omega) w h4 h5 (fun i hi => by
      have := hb _ (List.getElem_mem hi)
      simpa [List.getD_eq_getElem?_getD, hi] using this)
  · rw [ce_out hn]
    exact bitsOut_any n hn _ _ _ _

theorem checkRows_any (n : Int) (x : Um) (hb : ∀ y ∈ x.z, y < 4294967296) (w : World) (hx : Us w x) :
    Calls Try.prog 24 #[.int .i64 n, x.v] w fun e w' => e = .returned (.int .i64 (re n x.z)) ∧ w' = w := by
  have c1 := checkNone_any n w
  have hm := Nat.le_trans hx.1 hx.2.1
  unfold maxLen at hm
  by_cases hn : 0 ≤ n ∧ n ≤ 12
  · have e0 : ce n [] = 0 := by
      obtain ⟨m, rfl⟩ : ∃ m : Nat, n = m := ⟨n.toNat, by omega⟩
      exact ce_good (by omega) (fun x hx => by cases hx)
    rw [e0] at c1
    by_cases hl : x.z.length ≤ 8
    · have c2 := checkUs_any n x hl hb w hx
      have E : re n x.z = ce n x.z := if_pos hl
      rw [E]
      generalize ce n x.z = R at *
      clear hb hx E e0
      obtain ⟨a, c, g⟩ := x
      simp only [Um.v] at *
      have hlz : ¬ (g.length : Int) > 8 := by omega
      generalize g.length = l at *
      go_enter Try.func24, Try.ntmps24
      go_wp2_with fail
      refine c1.mono ?_
      rintro e w' ⟨rfl, rfl⟩
      clear c1
      go_wp2_with fail
      refine c2.mono ?_
      rintro e w' ⟨rfl, rfl⟩
      clear c2
      go_wp2
      go_ret
      exact ⟨rfl, rfl⟩
    · have E : re n x.z = 1 := if_neg hl
      rw [E]
      clear hb hx E e0
      obtain ⟨a, c, g⟩ := x
      simp only [Um.v] at *
      have hlz : (g.length : Int) > 8 := by omega
      generalize g.length = l at *
      go_enter Try.func24, Try.ntmps24
      go_wp2_with fail
      refine c1.mono ?_
      rintro e w' ⟨rfl, rfl⟩
      clear c1
      go_wp2
      go_ret
      exact ⟨rfl, rfl⟩
  · have e0 : ce n [] = 1 := ce_out hn _
    have E : re n x.z = 1 := by
      unfold re
      split
      · exact ce_out hn _
      · rfl
    rw [E]
    rw [e0] at c1
    clear hb hx E e0
    obtain ⟨a, c, g⟩ := x
    simp only [Um.v] at *
    generalize g.length = l at *
    go_enter Try.func24, Try.ntmps24
    go_wp2_with fail
    refine c1.mono ?_
    rintro e w' ⟨rfl, rfl⟩
    clear c1
    go_wp2
    go_ret
    exact ⟨rfl, rfl⟩

theorem refRows_any (n : Int) (x : Um) (hb : ∀ y ∈ x.z, y < 4294967296) (w : World) (hx : Us w x) :
    Calls Try.prog 19 #[.int .i64 n, x.v] w fun e w' => e = .returned (.int .i64 (re n x.z)) ∧ w' = w := by
  have hm := Nat.le_trans hx.1 hx.2.1
  unfold maxLen at hm
  by_cases hl : x.z.length ≤ 8
  · have c2 := bitsUs_any n x hl hb w hx
    have E : re n x.z = ce n x.z := if_pos hl
    rw [E]
    generalize ce n x.z = R at *
    clear hb hx E
    obtain ⟨a, c, g⟩ := x
    simp only [Um.v] at *
    have hlz : ¬ (g.length : Int) > 8 := by omega
    generalize g.length = l at *
    go_enter Try.func19, Try.ntmps19
    go_wp2_with fail
    refine c2.mono ?_
    rintro e w' ⟨rfl, rfl⟩
    clear c2
    go_wp2
    go_ret
    exact ⟨rfl, rfl⟩
  · have E : re n x.z = 1 := if_neg hl
    rw [E]
    clear hb hx E
    obtain ⟨a, c, g⟩ := x
    simp only [Um.v] at *
    have hlz : (g.length : Int) > 8 := by omega
    generalize g.length = l at *
    go_enter Try.func19, Try.ntmps19
    go_wp2
    go_ret
    exact ⟨rfl, rfl⟩

theorem rowed_any (n : Int) (x : Um) (hb : ∀ y ∈ x.z, y < 4294967296) (w : World) (hx : Us w x) :
    Calls Try.prog 14 #[.int .i64 n, x.v] w fun e w' => e = .returned (.bool (re n x.z == 0)) ∧ w' = w := by
  have c2 := refRows_any n x hb w hx
  clear hb hx
  generalize re n x.z = R at *
  obtain ⟨a, c, g⟩ := x
  simp only [Um.v] at *
  generalize g.length = l at *
  go_enter Try.func14, Try.ntmps14
  go_wp2_with fail
  refine c2.mono ?_
  rintro e w' ⟨rfl, rfl⟩
  clear c2
  go_wp2
  go_ret
  exact ⟨rfl, rfl⟩

end Go.Proofs.Ytabjliijojidmaa
