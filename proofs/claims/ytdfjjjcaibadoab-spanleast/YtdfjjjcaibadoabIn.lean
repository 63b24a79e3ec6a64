/-
  quipuref.In; the fewest bits of a linear list of words are how far its nearest two are apart.
-/
import Derived.Test.YtdfjjjcaibadoabLe
import Derived.Test.YtdfjjjcaibadoabSm
import Derived.Test.YtdfjjjcaibadoabRk
import Derived.Test.YtdfjjjcaibadoabSu
import Derived.Test.YtdfjjjcaibadoabFa
namespace Go.Proofs.Ytdfjjjcaibadoab
open Go.RowKit
set_option linter.unusedVariables false

/-- The fewest bits of the first k words, but of 0, and no more than n. -/
def fw (n : Nat) (S : List Nat) : Nat → Nat
  | 0 => n
  | k + 1 => if S.getD k 0 ≠ 0 ∧ pop (S.getD k 0) < fw n S k then pop (S.getD k 0) else fw n S k

theorem fw_succ (n : Nat) (S : List Nat) (k : Nat) : fw n S (k + 1) = if S.getD k 0 ≠ 0 ∧ pop (S.getD k 0) < fw n S k then pop (S.getD k 0) else fw n S k := rfl
theorem fw_le (n : Nat) (S : List Nat) : ∀ k, fw n S k ≤ n
  | 0 => Nat.le_refl _
  | k + 1 => by
    have h := fw_le n S k
    rw [fw_succ]
    split <;> omega
theorem fw_all (n : Nat) (S : List Nat) : ∀ k j, j < k → S.getD j 0 ≠ 0 → fw n S k ≤ pop (S.getD j 0)
  | 0, j, h, _ => absurd h (Nat.not_lt_zero _)
  | k + 1, j, h, h2 => by
    rw [fw_succ]
    rcases Nat.lt_succ_iff_lt_or_eq.1 h with h' | rfl
    · have ih := fw_all n S k j h' h2
      split <;> omega
    · split
      · exact Nat.le_refl _
      · rename_i hc
        have : ¬ pop (S.getD j 0) < fw n S j := fun h => hc ⟨h2, h⟩
        omega
theorem fw_some (n : Nat) (S : List Nat) : ∀ k, fw n S k = n ∨ ∃ j, j < k ∧ S.getD j 0 ≠ 0 ∧ fw n S k = pop (S.getD j 0)
  | 0 => Or.inl rfl
  | k + 1 => by
    rw [fw_succ]
    split
    · rename_i hc
      exact Or.inr ⟨k, by omega, hc.1, rfl⟩
    · rcases fw_some n S k with h | ⟨j, h1, h2, h3⟩
      · exact Or.inl h
      · exact Or.inr ⟨j, by omega, h2, h3⟩

theorem Lin.book {n : Nat} {S : List Nat} (L : Lin n S) (hn : n ≤ 12) (h : S.length ≤ 64) : Book n S := ⟨hn, h, L.low, L.once⟩

theorem mem_getD {S : List Nat} {u : Nat} (h : u ∈ S) : ∃ j, j < S.length ∧ S.getD j 0 = u := by
  obtain ⟨j, hj, e⟩ := List.mem_iff_getElem.1 h
  exact ⟨j, hj, by rw [getD_get hj]; exact e⟩
theorem getD_mem {S : List Nat} {j : Nat} (h : j < S.length) : S.getD j 0 ∈ S := by rw [getD_get h]; exact List.getElem_mem h
theorem xor_ne {a b : Nat} (h : a ≠ b) : a ^^^ b ≠ 0 := fun e => h (by
  have : a ^^^ (a ^^^ b) = a ^^^ 0 := by rw [e]
  rw [← Nat.xor_assoc, Nat.xor_self, Nat.zero_xor, Nat.xor_zero] at this
  exact this.symm)

theorem Lin.isF {n : Nat} {S : List Nat} (L : Lin n S) (hn : n ≤ 12) (h2 : 2 ≤ S.length) (h : S.length ≤ 64) : IsL S (fw n S S.length : Nat) := by
  have B := L.book hn h
  have non : ∃ j, j < S.length ∧ S.getD j 0 ≠ 0 ∧ fw n S S.length = pop (S.getD j 0) := by
    rcases fw_some n S S.length with e | e
    · have h0 : S.getD 0 0 ≠ 0 ∨ S.getD 1 0 ≠ 0 := by
        have := B.ne (i := 0) (j := 1) (by omega) (by omega) (by omega)
        omega
      have go : ∀ j, j < S.length → S.getD j 0 ≠ 0 → ∃ j, j < S.length ∧ S.getD j 0 ≠ 0 ∧ fw n S S.length = pop (S.getD j 0) := fun j hj hz => by
        have a := fw_all n S S.length j hj hz
        have b : pop (S.getD j 0) ≤ n := pop_le (B.lt hj) (by omega)
        exact ⟨j, hj, hz, by omega⟩
      rcases h0 with h0 | h0
      · exact go 0 (by omega) h0
      · exact go 1 (by omega) h0
    · exact e
  constructor
  · intro a b hb ha
    obtain ⟨j, hj, e⟩ := mem_getD (L.sum _ (getD_mem ha) _ (getD_mem (show b < S.length by omega)))
    have hne := xor_ne (B.ne ha (show b < S.length by omega) (by omega))
    have := fw_all n S S.length j hj (by rw [e]; exact hne)
    rw [e] at this
    unfold far
    omega
  · obtain ⟨j, hj, hz, e⟩ := non
    obtain ⟨i, hi, ei⟩ := mem_getD L.zero
    have hij : i ≠ j := fun h => hz (by rw [← h]; exact ei)
    rcases Nat.lt_or_ge i j with h' | h'
    · exact ⟨j, i, h', hj, by rw [ei, e]; unfold far; rw [Nat.xor_zero]⟩
    · exact ⟨i, j, by omega, hi, by rw [ei, e]; unfold far; rw [Nat.zero_xor]⟩

theorem Lin.least {n : Nat} {S : List Nat} (L : Lin n S) (hn : n ≤ 12) (h2 : 2 ≤ S.length) (h : S.length ≤ 64) : lst n S (S.length - 1) = fw n S S.length := by
  have := ((L.book hn h).isL h2).eq (L.isF hn h2 h)
  omega

/-- quipuref.In. -/
theorem in_any (x : Um) (q : Nat) (hl : x.z.length ≤ 8) (hb : ∀ y ∈ x.z, y < 4294967296) (w : World) (hx : Us w x) :
    Calls Try.prog 15 #[x.v, .int .u32 (q : Nat)] w fun e w' => e = .returned (.bool (inb x.z q)) ∧ w' = w := by
  have HC : Hid (∀ s, s < 4294967296 → Calls Try.prog 33 #[x.v, .int .u32 (s : Nat)] w fun e w' => e = .returned (.int .u32 (sm x.z s : Nat)) ∧ w' = w) := fun s hs => refSum_any x s hs (by omega) hb w hx
  have IB : Hid (inb x.z q = true ↔ ∃ s, s < 2 ^ x.z.length ∧ sm x.z s = q) := inb_iff
  have hp : 2 ^ x.z.length ≤ 2 ^ 8 := Nat.pow_le_pow_right (by omega) hl
  have pw : (2 : Int) ^ x.z.length % 4294967296 = ((2 ^ x.z.length : Nat) : Int) := pow_in _ (by omega)
  clear hb hx
  obtain ⟨a, c, g⟩ := x
  simp only [Um.v] at *
  generalize inb g q = R at *
  generalize sm g = S at *
  generalize g.length = m at *
  generalize 2 ^ m = M at *
  go_enter Try.func15, Try.ntmps15
  go_wp2
  go_loopg [5] M (fun gg s5 wr => ∃ k : Nat, k ≤ M ∧ M - k ≤ gg ∧ s5 = .int .u32 k ∧ Aside (∀ s, s < k → S s ≠ q) ∧ wr = w)
  case atStart => exact ⟨0, Nat.zero_le _, by omega, rfl, fun s hs => absurd hs (Nat.not_lt_zero _), rfl⟩
  case round =>
    obtain ⟨k, hk, hg, rfl, A, rfl⟩ := hrel
    by_cases hlt : k < M
    · have hltz : (k : Int) < (M : Int) := by omega
      have c1 := HC.out k (by omega)
      have fin : Aside (S k = q → R = true) := fun h => IB.out.2 ⟨k, hlt, h⟩
      have go : Aside (S k ≠ q → ∀ s, s < k + 1 → S s ≠ q) := fun h i hi => by
        rcases Nat.lt_succ_iff_lt_or_eq.1 hi with h' | rfl
        · exact A.out i h'
        · exact h
      clear IB HC
      generalize S k = y at *
      by_cases h : y = q
      · have hz : ((y : Int) == (q : Int)) = true := by rw [h]; exact beq_self_eq_true _
        have F : Aside (R = true) := fin.out h
        clear fin go h
        go_wp2_with fail
        refine c1.mono ?_
        rintro e w9 ⟨rfl, rfl⟩
        clear c1
        go_wp2
        go_ret
        exact ⟨by rw [F.out]; rfl, rfl⟩
      · have hz : ((y : Int) == (q : Int)) = false := by rw [beq_eq_false_iff_ne]; omega
        have F : Aside (∀ s, s < k + 1 → S s ≠ q) := go.out h
        clear fin go h
        go_wp2_with fail
        refine c1.mono ?_
        rintro e w9 ⟨rfl, rfl⟩
        clear c1
        go_wp2
        go_roundg (M - (k + 1))
        case measure => omega
        case rel => exact ⟨k + 1, by omega, by omega, by go_num, F.out, rfl⟩
    · obtain rfl : M = k := by omega
      have hltz : ¬ (M : Int) < (M : Int) := by omega
      have F : Aside (R = false) := by
        show R = false
        cases hR : R
        · rfl
        · obtain ⟨s, h1, h2⟩ := IB.out.1 hR
          exact absurd h2 (A.out s h1)
      clear IB HC A
      go_wp2
      go_ret
      exact ⟨by rw [F.out]; rfl, rfl⟩

end Go.Proofs.Ytdfjjjcaibadoab
