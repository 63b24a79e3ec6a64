/-
  ball.checkWords, ball.checkBall, ball.apart, ball.Dist; quipuref.BitsCheck and quipukeep.below of words in memory; quipuref.Apart.
-/
import Derived.Test.YtioaohcnlgbnnaaWd
import Derived.Test.YtioaohcnlgbnnaaBc
import Derived.Test.YtioaohcnlgbnnaaLn
import Derived.Test.YtioaohcnlgbnnaaXo
import Derived.Test.YtioaohcnlgbnnaaOu
namespace Go.Proofs.Ytioaohcnlgbnnaa
open Go.RowKit

/-- What is told of a count of bits and of words. -/
def ce (n : Int) (g : List Nat) : Int := if 0 ≤ n ∧ n ≤ 12 then (if ∀ x ∈ g, x < 2 ^ n.toNat then 0 else 4) else 1
theorem ce_nat {n : Nat} (hn : n ≤ 12) (g : List Nat) : ce n g = if ∀ x ∈ g, x < 2 ^ n then 0 else 4 := if_pos ⟨by omega, by omega⟩
theorem ce_out {n : Int} (h : ¬ (0 ≤ n ∧ n ≤ 12)) (g : List Nat) : ce n g = 1 := if_neg h
theorem ce_good {n : Nat} (hn : n ≤ 12) {g : List Nat} (h : ∀ x ∈ g, x < 2 ^ n) : ce n g = 0 := by rw [ce_nat hn, if_pos h]
theorem ce_zero {n : Int} {g : List Nat} (h : ce n g = 0) : ∃ m : Nat, n = m ∧ m ≤ 12 ∧ ∀ x ∈ g, x < 2 ^ m := by
  unfold ce at h
  by_cases c : 0 ≤ n ∧ n ≤ 12
  · rw [if_pos c] at h
    by_cases d : ∀ x ∈ g, x < 2 ^ n.toNat
    · exact ⟨n.toNat, by omega, by omega, d⟩
    · rw [if_neg d] at h; omega
  · rw [if_neg c] at h; omega

/-- quipuref.BitsCheck of words in a row. -/
theorem refBits_any (n : Int) (g : List Nat) (hl : g.length ≤ 1000) (hg : ∀ x ∈ g, x < 4294967296) (b c : Nat) (w : World) (hr : Row w b 22 (uv g)) :
    Calls Try.prog 9 #[.int .i64 n, .slice (some ⟨b, 0, none⟩) g.length c] w fun e w' => e = .returned (.int .i64 (ce n g)) ∧ w' = w := by
  by_cases hn : 0 ≤ n ∧ n ≤ 12
  · obtain ⟨m, rfl⟩ : ∃ m : Nat, n = m := ⟨n.toNat, by omega⟩
    rw [ce_nat (by omega)]
    refine bitsCheck_any m (by omega) b 0 g.length c g rfl hl w (fun i hi => ?_) (fun i hi => ?_)
    · have := hr.cell i (by simpa using hi)
      rw [Nat.zero_add, this]
      simp [List.getD_eq_getElem?_getD, hi]
    · have := hg _ (List.getElem_mem hi)
      simpa [List.getD_eq_getElem?_getD, hi] using this
  · rw [ce_out hn]
    exact bitsOut_any n hn _ _ _ _

theorem checkOut_any (n : Int) (h : ¬ (0 ≤ n ∧ n ≤ 12)) (a : Option Addr) (m c : Nat) (w : World) : Calls Try.prog 17 #[.int .i64 n, .slice a m c] w fun e w' => e = .returned (.int .i64 1) ∧ w' = w := by
  rcases Int.lt_or_le n 0 with h0 | h0
  · go_enter Try.func17, Try.ntmps17
    go_wp2
    go_ret
    exact ⟨rfl, rfl⟩
  · have h1 : 12 < n := by omega
    go_enter Try.func17, Try.ntmps17
    go_wp2
    go_ret
    exact ⟨rfl, rfl⟩

theorem checkNone_any (n : Int) (w : World) : Calls Try.prog 17 #[.int .i64 n, .slice none 0 0] w fun e w' => e = .returned (.int .i64 (ce n [])) ∧ w' = w := by
  by_cases hn : 0 ≤ n ∧ n ≤ 12
  · obtain ⟨m, rfl⟩ : ∃ m : Nat, n = m := ⟨n.toNat, by omega⟩
    rw [ce_good (by omega) (fun x hx => by cases hx)]
    obtain ⟨h0, h1⟩ := hn
    go_enter Try.func17, Try.ntmps17
    go_wp2
    go_loopg [6, 15] 0 (fun _ _ s wr => s = .int .i64 0 ∧ wr = w)
    case atStart => exact ⟨rfl, rfl⟩
    case round =>
      obtain ⟨rfl, rfl⟩ := hrel
      go_wp2
      go_ret
      exact ⟨rfl, rfl⟩
  · rw [ce_out hn]
    exact checkOut_any n hn _ _ _ _

theorem checkIn_any (n : Nat) (hn : n ≤ 12) (g : List Nat) (hl : g.length ≤ 1000) (hg : ∀ x ∈ g, x < 4294967296) (b c : Nat) (w : World) (hr : Row w b 22 (uv g)) :
    Calls Try.prog 17 #[.int .i64 n, .slice (some ⟨b, 0, none⟩) g.length c] w fun e w' => e = .returned (.int .i64 (ce n g)) ∧ w' = w := by
  have HC : Hid (∀ i, i < g.length → w.cell? ⟨b, 0 + i, none⟩ = some (.int .u32 (g.getD i 0 : Nat))) := fun i hi => by
    have := hr.cell i (by simpa using hi)
    rw [Nat.zero_add, this]
    simp [List.getD_eq_getElem?_getD, hi]
  have HB : Hid (∀ i, i < g.length → g.getD i 0 < 4294967296) := fun i hi => by
    have := hg _ (List.getElem_mem hi)
    simpa [List.getD_eq_getElem?_getD, hi] using this
  have LN : Hid (∀ (x : Nat) W, x < 4294967296 → Calls Try.prog 19 #[.int .u32 (x : Nat)] W fun e w' => e = .returned (.int .i64 (Lib.bitLen x : Nat)) ∧ w' = W) := fun x W hx => len32_any x hx W
  have AB : Hid (∀ x, x < 4294967296 → (n < Lib.bitLen x ↔ 2 ^ n ≤ x)) := fun x hx => bitLen_above (by omega) hx
  rw [ce_nat hn]
  generalize 2 ^ n = M at *
  have fin : Hid ((∀ i, i < g.length → g.getD i 0 < M) → (if (∀ x ∈ g, x < M) then (0 : Int) else 4) = 0) := fun h => if_pos (by
    intro x hx
    obtain ⟨i, hi, rfl⟩ := List.mem_iff_getElem.1 hx
    have := h i (by omega)
    simpa [List.getD_eq_getElem?_getD, hi] using this)
  have bad : Hid (∀ i, i < g.length → M ≤ g.getD i 0 → (if (∀ x ∈ g, x < M) then (0 : Int) else 4) = 4) := fun i hi h => if_neg (fun h' => by
    have := h' _ (List.getElem_mem (l := g) (n := i) (by omega))
    simp [List.getD_eq_getElem?_getD, hi] at h
    omega)
  generalize (if (∀ x ∈ g, x < M) then (0 : Int) else 4) = R at *
  clear hr hg
  generalize g.length = m at *
  go_enter Try.func17, Try.ntmps17
  go_wp2
  go_loopg [6, 15] m (fun gg _ s wr => ∃ k : Nat, k ≤ m ∧ m - k ≤ gg ∧ s = .int .i64 k ∧ Aside (∀ i, i < k → g.getD i 0 < M) ∧ wr = w)
  case atStart => exact ⟨0, Nat.zero_le _, by omega, rfl, fun i hi => absurd hi (Nat.not_lt_zero _), rfl⟩
  case round =>
    obtain ⟨k, hk, hgg, rfl, A, rfl⟩ := hrel
    by_cases hlt : k < m
    · have hltz : (k : Int) < (m : Int) := by omega
      have e1 := HC.out k hlt
      rw [Nat.zero_add] at e1
      have b1 := HB.out k hlt
      have c1 := LN.out _ wr b1
      have ab := AB.out _ b1
      have go : Aside (g.getD k 0 < M → ∀ i, i < k + 1 → g.getD i 0 < M) := fun h i hi => by
        rcases Nat.lt_succ_iff_lt_or_eq.1 hi with h' | rfl
        · exact A.out i h'
        · exact h
      have bd : Hid (M ≤ g.getD k 0 → R = 4) := bad.out k hlt
      generalize g.getD k 0 = y at *
      generalize Lib.bitLen y = L at *
      rcases Nat.lt_or_ge y M with h | h
      · have hz : ¬ (L : Int) > (n : Int) := by omega
        have go' := go.out h
        clear go bd ab
        have go2 : Aside (∀ i, i < k + 1 → g.getD i 0 < M) := go'
        clear go'
        go_wp2_with fail
        refine c1.mono ?_
        rintro e w' ⟨rfl, rfl⟩
        clear c1
        go_wp2
        go_roundg (m - (k + 1))
        case measure => omega
        case rel => exact ⟨k + 1, by omega, by omega, by go_num, go2.out, rfl⟩
      · have hz : (L : Int) > (n : Int) := by omega
        have e := bd.out h
        clear go bd ab
        go_wp2_with fail
        refine c1.mono ?_
        rintro e' w' ⟨rfl, rfl⟩
        clear c1
        go_wp2
        go_ret
        exact ⟨by rw [e]; rfl, rfl⟩
    · have e := fin.out (fun i hi => A.out i (by omega))
      clear fin bad
      go_wp2
      go_ret
      exact ⟨by rw [e]; rfl, rfl⟩

theorem checkWords_any (n : Int) (g : List Nat) (hl : g.length ≤ 1000) (hg : ∀ x ∈ g, x < 4294967296) (b c : Nat) (w : World) (hr : Row w b 22 (uv g)) :
    Calls Try.prog 17 #[.int .i64 n, .slice (some ⟨b, 0, none⟩) g.length c] w fun e w' => e = .returned (.int .i64 (ce n g)) ∧ w' = w := by
  by_cases hn : 0 ≤ n ∧ n ≤ 12
  · obtain ⟨m, rfl⟩ : ∃ m : Nat, n = m := ⟨n.toNat, by omega⟩
    exact checkIn_any m (by omega) g hl hg b c w hr
  · rw [ce_out hn]
    exact checkOut_any n hn _ _ _ _

/-- What is told of a count of bits, of words and of how far. -/
def cb (n r : Int) (g : List Nat) : Int := if ce n g = 0 then (if 0 ≤ r ∧ r ≤ n then 0 else 4) else ce n g
theorem cb_zero {n r : Int} {g : List Nat} (h : cb n r g = 0) : ∃ m s : Nat, n = m ∧ r = s ∧ m ≤ 12 ∧ s ≤ m ∧ ∀ x ∈ g, x < 2 ^ m := by
  unfold cb at h
  by_cases c : ce n g = 0
  · rw [if_pos c] at h
    obtain ⟨m, rfl, hm, hg⟩ := ce_zero c
    by_cases d : 0 ≤ r ∧ r ≤ (m : Int)
    · exact ⟨m, r.toNat, rfl, by omega, hm, by omega, hg⟩
    · rw [if_neg d] at h; omega
  · rw [if_neg c] at h; exact absurd h c

theorem uv_two (a b : Nat) : uv [a, b] = [.int .u32 (a : Int), .int .u32 (b : Int)] := rfl

end Go.Proofs.Ytioaohcnlgbnnaa
