/-
  state.firstOf, state.put over parts that may be.
-/
import Derived.Test.YtchnlbanhkigjabSm
namespace Go.Proofs.Ytchnlbanhkigjab
open Go.RowKit
set_option linter.unusedVariables false

/-- Parts, as they lie in memory. -/
def Pa (w : World) (b o : Nat) (p : List Nat) : Prop := ∀ i, i < p.length → w.cell? ⟨b, o + i, none⟩ = some (.int .i64 (pt p i : Nat))
theorem Pa.ext {w w' : World} {b o : Nat} {p : List Nat} (h : Pa w b o p) (e : Ext w w') : Pa w' b o p := fun i hi => e.cell (h i hi)

theorem firstOf_any (b o n c : Nat) (p : List Nat) (s : Nat) (w : World) (hn : p.length = n) (h8 : n ≤ 8) (hc : n ≤ c) (hcm : c ≤ maxLen) (h16 : p.sum ≤ 16) (hs : s < n) (h : Pa w b o p) :
    Calls Try.prog 10 #[.slice (some ⟨b, o, none⟩) n c, .int .i64 s] w fun e w' => e = .returned (.int .i64 (fs p s : Nat)) ∧ w' = w := by
  unfold maxLen at hcm
  have HA : Hid (∀ i, i < n → w.cell? ⟨b, o + i, none⟩ = some (.int .i64 (pt p i : Nat))) := fun i hi => h i (by omega)
  have NX : Hid (∀ i, fs p (i + 1) = fs p i + pt p i ∧ fs p i + pt p i ≤ 16) := fun i => ⟨fs_succ p i, by have := fs_le p i; omega⟩
  have Z0 : Hid (fs p 0 = 0) := fs_zero p
  clear h hn h16
  go_enter Try.func10, Try.ntmps10
  go_wp2
  go_loopg [5, 7, 12] s (fun gg s5 _ t wr => ∃ k : Nat, k ≤ s ∧ s - k ≤ gg ∧ s5 = .int .i64 (fs p k : Nat) ∧ t = .int .i64 k ∧ wr = w)
  case atStart => exact ⟨0, Nat.zero_le _, by omega, by rw [Z0.out]; rfl, rfl, rfl⟩
  case round =>
    obtain ⟨k, hk, hg, rfl, rfl, rfl⟩ := hrel
    by_cases hlt : k < s
    · have hltz : (k : Int) < (s : Int) := by omega
      have e1 := HA.out k (by omega)
      obtain ⟨nx, few⟩ := NX.out k
      generalize fs p k = A at *
      generalize pt p k = y at *
      have HN : Hid (fs p (k + 1) = A + y) := nx
      clear nx
      go_wp2
      go_roundg (s - (k + 1))
      case measure => omega
      case rel => exact ⟨k + 1, by omega, by omega, by rw [HN.out]; go_num, by go_num, rfl⟩
    · have hk' : k = s := by omega
      subst hk'
      clear NX
      go_wp2
      go_ret
      exact ⟨rfl, rfl⟩

theorem put_low (a : Option Addr) (n c : Nat) (T x s : Int) (w : World) (hs : s < 0) :
    Calls Try.prog 7 #[.slice a n c, .int .i64 T, .int .i64 x, .int .i64 s] w fun e w' => e = .returned (.tuple #[.int .i64 0, .int .i64 2]) ∧ w' = w := by
  go_enter Try.func7, Try.ntmps7
  go_wp2
  go_ret2
  exact ⟨rfl, rfl⟩
theorem put_high (a : Option Addr) (n c : Nat) (T x s : Int) (w : World) (hn : n ≤ maxLen) (hs : (n : Int) ≤ s) :
    Calls Try.prog 7 #[.slice a n c, .int .i64 T, .int .i64 x, .int .i64 s] w fun e w' => e = .returned (.tuple #[.int .i64 0, .int .i64 2]) ∧ w' = w := by
  unfold maxLen at hn
  have h0 : ¬ s < 0 := by omega
  go_enter Try.func7, Try.ntmps7
  go_wp2
  go_ret2
  exact ⟨rfl, rfl⟩
theorem put_none (b o n c : Nat) (T x : Int) (s : Nat) (w : World) (hn : n ≤ maxLen) (hs : s < n) (h : w.cell? ⟨b, o + s, none⟩ = some (.int .i64 0)) :
    Calls Try.prog 7 #[.slice (some ⟨b, o, none⟩) n c, .int .i64 T, .int .i64 x, .int .i64 s] w fun e w' => e = .returned (.tuple #[.int .i64 0, .int .i64 2]) ∧ w' = w := by
  unfold maxLen at hn
  have h0 : ¬ (s : Int) < 0 := by omega
  have h1 : ¬ (n : Int) ≤ (s : Int) := by omega
  go_enter Try.func7, Try.ntmps7
  go_wp2
  go_ret2
  exact ⟨rfl, rfl⟩

theorem put_some (b o n c : Nat) (p : List Nat) (x s : Nat) (w : World) (hn : p.length = n) (h8 : n ≤ 8) (hc : n ≤ c) (hcm : c ≤ maxLen) (h16 : p.sum ≤ 16) (hx : x ≤ 1099511627776) (hs : s < n) (hk : 0 < pt p s) (h : Pa w b o p) :
    Calls Try.prog 7 #[.slice (some ⟨b, o, none⟩) n c, .int .i64 (p.sum : Nat), .int .i64 x, .int .i64 s] w fun e w' => e = .returned (.tuple #[.int .i64 (pv p x s : Nat), .int .i64 (pe p x s)]) ∧ Qt w w' := by
  have c1 : Hid (∀ m, Calls Try.prog 10 #[.slice (some ⟨b, o, none⟩) n c, .int .i64 s] (w.drewN m) fun e w' => e = .returned (.int .i64 (fs p s : Nat)) ∧ w' = w.drewN m) := fun m => firstOf_any b o n c p s _ hn h8 hc hcm h16 hs (h.ext ((Ext.refl w).drewN m))
  have e1 := h s (by omega)
  have h0 : ¬ (s : Int) < 0 := by omega
  have h1 : ¬ (n : Int) ≤ (s : Int) := by omega
  have f1 := fs_le p s
  have f2 : x / pt p s ≤ x := Nat.div_le_self _ _
  have f3 : x % pt p s < pt p s := Nat.mod_lt _ hk
  have f4 : x / pt p s * p.sum ≤ x * 16 := Nat.mul_le_mul f2 h16
  have hpe := pe_nat (x := x) hk
  have hpv : pv p x s = if pu p x s ≤ 1099511627776 then pu p x s else 0 := by
    by_cases hh : pu p x s ≤ 1099511627776
    · rw [if_pos hh] at hpe ⊢
      unfold pv
      rw [if_pos hpe, Int.toNat_natCast]
    · rw [if_neg hh] at hpe ⊢
      exact pv_bad (by rw [hpe]; decide)
  have hpu : pu p x s = x / pt p s * p.sum + fs p s + x % pt p s := rfl
  have hq : (x : Int).tdiv (pt p s : Nat) = ((x / pt p s : Nat) : Int) := by rw [Int.ofNat_tdiv]
  have hm : (x : Int).tmod (pt p s : Nat) = ((x % pt p s : Nat) : Int) := by rw [Int.ofNat_tmod]
  have hmul : ((x / pt p s : Nat) : Int) * (p.sum : Nat) = ((x / pt p s * p.sum : Nat) : Int) := by rw [Int.natCast_mul]
  rw [hpv, hpe, hpu]
  unfold maxLen at hcm
  clear hpv hpe hpu h hn
  generalize x / pt p s * p.sum = M at *
  generalize x / pt p s = q at *
  generalize x % pt p s = r at *
  generalize fs p s = f at *
  generalize pt p s = k at *
  generalize p.sum = T at *
  by_cases hh : M + f + r ≤ 1099511627776
  · rw [if_pos hh, if_pos hh]
    go_enter Try.func7, Try.ntmps7
    go_wp2
    go_quiet ((go_at_call 10; exact Calls.quiet_of_same (c1.out _)))
    go_wp2
    go_ret2
    exact ⟨rfl, _, rfl⟩
  · rw [if_neg hh, if_neg hh]
    go_enter Try.func7, Try.ntmps7
    go_wp2
    go_quiet ((go_at_call 10; exact Calls.quiet_of_same (c1.out _)))
    go_wp2
    go_ret2
    exact ⟨rfl, _, rfl⟩

theorem put_any (b o n c : Nat) (p : List Nat) (x : Nat) (s : Int) (w : World) (hn : p.length = n) (h8 : n ≤ 8) (hc : n ≤ c) (hcm : c ≤ maxLen) (h16 : p.sum ≤ 16) (hx : x ≤ 1099511627776) (h : Pa w b o p) :
    Calls Try.prog 7 #[.slice (some ⟨b, o, none⟩) n c, .int .i64 (p.sum : Nat), .int .i64 x, .int .i64 s] w fun e w' => e = .returned (.tuple #[.int .i64 (pv p x s : Nat), .int .i64 (pe p x s)]) ∧ Qt w w' := by
  by_cases hs : 0 ≤ s ∧ s < p.length ∧ pt p s.toNat ≠ 0
  · obtain ⟨h1, h2, h3⟩ := hs
    obtain ⟨k, rfl⟩ : ∃ k : Nat, s = k := ⟨s.toNat, by omega⟩
    rw [Int.toNat_natCast] at h3
    exact put_some b o n c p x k w hn h8 hc hcm h16 hx (by omega) (by omega) h
  · have e := pe_arg (x := x) hs
    rw [pv_bad (by rw [e]; decide), e]
    have goal : Calls Try.prog 7 #[.slice (some ⟨b, o, none⟩) n c, .int .i64 (p.sum : Nat), .int .i64 x, .int .i64 s] w fun e w' => e = .returned (.tuple #[.int .i64 0, .int .i64 2]) ∧ w' = w := by
      by_cases h1 : s < 0
      · exact put_low _ _ _ _ _ _ _ h1
      · by_cases h2 : (n : Int) ≤ s
        · exact put_high _ _ _ _ _ _ _ (by omega) h2
        · obtain ⟨k, rfl⟩ : ∃ k : Nat, s = k := ⟨s.toNat, by omega⟩
          refine put_none b o n c _ _ k w (by omega) (by omega) ?_
          have h3 : pt p k = 0 := by
            rcases Nat.eq_zero_or_pos (pt p k) with h' | h'
            · exact h'
            · exact absurd ⟨by omega, by omega, by rw [Int.toNat_natCast]; omega⟩ hs
          have := h k (by omega)
          rw [h3] at this
          exact this
    exact goal.mono fun e w' ⟨h1, h2⟩ => ⟨h1, by rw [h2]; exact Qt.refl w⟩

end Go.Proofs.Ytchnlbanhkigjab
