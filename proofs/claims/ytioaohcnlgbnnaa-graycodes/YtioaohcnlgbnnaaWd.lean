/-
  quipuref.BitsCheck of one word and of two; quipuref.Word; rank.Word.
-/
import Derived.Test.YtioaohcnlgbnnaaBt
namespace Go.Proofs.Ytioaohcnlgbnnaa
open Go.RowKit

/-- quipuref.BitsCheck of words that lie in memory. -/
theorem bitsCheck_any (n : Nat) (hn : n ≤ 12) (b o m c : Nat) (g : List Nat) (hg : g.length = m) (hm : m ≤ 1000) (w : World) (hc : ∀ i, i < m → w.cell? ⟨b, o + i, none⟩ = some (.int .u32 (g.getD i 0))) (hb : ∀ i, i < m → g.getD i 0 < 4294967296) :
    Calls Try.prog 9 #[.int .i64 n, .slice (some ⟨b, o, none⟩) m c] w fun e w' => e = .returned (.int .i64 (if (∀ x ∈ g, x < 2 ^ n) then 0 else 4)) ∧ w' = w := by
  have pw : (2 : Int) ^ n % 4294967296 = ((2 ^ n : Nat) : Int) := pow_in n (by omega)
  have hM : 2 ^ n ≤ 2 ^ 12 := Nat.pow_le_pow_right (by omega) hn
  generalize 2 ^ n = M at *
  have HC : Hid (∀ i, i < m → w.cell? ⟨b, o + i, none⟩ = some (.int .u32 (g.getD i 0))) := hc
  have HB : Hid (∀ i, i < m → g.getD i 0 < 4294967296) := hb
  clear hc hb
  have fin : Hid ((∀ i, i < m → g.getD i 0 < M) → (if (∀ x ∈ g, x < M) then (0 : Int) else 4) = 0) := fun h => if_pos (by
    intro x hx
    obtain ⟨i, hi, rfl⟩ := List.mem_iff_getElem.1 hx
    have := h i (by omega)
    simpa [List.getD_eq_getElem?_getD, hi] using this)
  have bad : Hid (∀ i, i < m → M ≤ g.getD i 0 → (if (∀ x ∈ g, x < M) then (0 : Int) else 4) = 4) := fun i hi h => if_neg (fun h' => by
    have := h' _ (List.getElem_mem (l := g) (n := i) (by omega))
    simp [List.getD_eq_getElem?_getD, (show i < g.length by omega)] at h
    omega)
  generalize (if (∀ x ∈ g, x < M) then (0 : Int) else 4) = R at *
  go_enter Try.func9, Try.ntmps9
  go_wp2
  go_loopg [6, 15] m (fun gg _ s wr => ∃ k : Nat, k ≤ m ∧ m - k ≤ gg ∧ s = .int .i64 k ∧ Aside (∀ i, i < k → g.getD i 0 < M) ∧ wr = w)
  case atStart => exact ⟨0, Nat.zero_le _, by omega, rfl, fun i hi => absurd hi (Nat.not_lt_zero _), rfl⟩
  case round =>
    obtain ⟨k, hk, hgg, rfl, A, rfl⟩ := hrel
    by_cases hlt : k < m
    · have hltz : (k : Int) < (m : Int) := by omega
      have e1 := HC.out k hlt
      have b1 := HB.out k hlt
      have go : Aside (g.getD k 0 < M → ∀ i, i < k + 1 → g.getD i 0 < M) := fun h i hi => by
        rcases Nat.lt_succ_iff_lt_or_eq.1 hi with h' | rfl
        · exact A.out i h'
        · exact h
      have bd : Hid (M ≤ g.getD k 0 → R = 4) := bad.out k hlt
      generalize g.getD k 0 = y at *
      rcases Nat.lt_or_ge y M with h | h
      · have hz : (y : Int) < (M : Int) := by omega
        have go' := go.out h
        clear go bd
        have go2 : Aside (∀ i, i < k + 1 → g.getD i 0 < M) := go'
        clear go'
        go_wp2
        go_roundg (m - (k + 1))
        case measure => omega
        case rel => exact ⟨k + 1, by omega, by omega, by go_num, go2.out, rfl⟩
      · have hz : (M : Int) ≤ (y : Int) := by omega
        have e := bd.out h
        clear go bd
        go_wp2
        go_ret
        exact ⟨by rw [e]; rfl, rfl⟩
    · have e := fin.out (fun i hi => A.out i (by omega))
      clear fin bad
      go_wp2
      go_ret
      exact ⟨by rw [e]; rfl, rfl⟩

theorem mer_zero {n k : Int} (h : mer n k = 0) : ∃ N K : Nat, n = N ∧ k = K ∧ N ≤ 12 ∧ K ≤ N := by
  unfold mer at h
  by_cases c : 0 ≤ n ∧ n ≤ 12
  · rw [if_pos c] at h
    by_cases d : 0 ≤ k ∧ k ≤ n
    · exact ⟨n.toNat, k.toNat, by omega, by omega, by omega, by omega⟩
    · rw [if_neg d] at h; omega
  · rw [if_neg c] at h; omega

end Go.Proofs.Ytioaohcnlgbnnaa
