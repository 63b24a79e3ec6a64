/-
  quipuref.OddBits.
-/
import Derived.Test.YtnkhlohoaoiefaaDoorRw
import Derived.Test.YtnkhlohoaoiefaaDoorCho
namespace Go.Proofs.YtnkhlohoaoiefaaDoor
open Go.RowKit
set_option linter.unusedVariables false

theorem oddBits_any (x : Wd) (w : World) (hx : Bits w x) : Calls Tryd.prog 24 #[x.v] w fun e w' => e = .returned (.bool (xs (fun i => x.l.getD i false) x.l.length)) ∧ w' = w := by
  obtain ⟨a, c, l⟩ := x
  obtain ⟨h1, h2, _, b, o, h4, h5⟩ := hx
  simp only at h1 h2 h4 h5
  simp only [Wd.v]
  unfold maxLen at h2
  obtain ⟨S, hS⟩ : ∃ S : Nat → Bool, ∀ k, S k = xs (fun i => l.getD i false) k := ⟨_, fun _ => rfl⟩
  obtain ⟨B, hB⟩ : ∃ B : Nat → Bool, ∀ k, B k = l.getD k false := ⟨_, fun _ => rfl⟩
  have HC : Hid (∀ i, i < l.length → w.cell? ⟨b, o + i, none⟩ = some (.bool (B i))) := fun i hi => by rw [hB]; exact h5 i hi
  have NX : Hid (∀ k, k < l.length → S (k + 1) = (S k != B k)) := fun k h => by rw [hS, hS, hB]; rfl
  have Z0 : Hid (S 0 = false) := hS 0
  have ZN : xs (fun i => l.getD i false) l.length = S l.length := by rw [hS]
  rw [ZN]
  clear h5 ZN hS hB
  generalize l.length = m at *
  go_enter Tryd.func24, Tryd.ntmps24
  go_wp2
  go_loopg [3, 8] m (fun gg s3 s8 wr => ∃ k n : Nat, k ≤ m ∧ n ≤ k ∧ m - k ≤ gg ∧ s8 = .int .i64 k ∧ s3 = .int .i64 n ∧ Aside ((n % 2 == 1) = S k) ∧ wr = w)
  case atStart => exact ⟨0, 0, Nat.zero_le _, Nat.zero_le _, by omega, rfl, rfl, Z0.out.symm, rfl⟩
  case round =>
    obtain ⟨k, n, hk, hn, hgg, rfl, rfl, A, rfl⟩ := hrel
    by_cases hlt : k < m
    · have hltz : (k : Int) < (m : Int) := by omega
      obtain rfl := h4 (by omega)
      have e1 := HC.out k hlt
      have nx := NX.out k hlt
      clear HC NX Z0 h4
      cases hy : B k
      · rw [hy] at e1 nx
        have fin : Aside ((n % 2 == 1) = S (k + 1)) := by
          show _ = _
          rw [nx, ← A.out, Bool.bne_false]
        clear hy nx A
        go_wp2
        go_roundg (m - (k + 1))
        case measure => omega
        case rel => exact ⟨k + 1, n, by omega, by omega, by omega, by go_num, rfl, fin.out, rfl⟩
      · rw [hy] at e1 nx
        have fin : Aside (((n + 1) % 2 == 1) = S (k + 1)) := by
          show _ = _
          rw [nx, ← A.out]
          rcases Nat.mod_two_eq_zero_or_one n with h | h
          · rw [h, show (n + 1) % 2 = 1 by omega]; rfl
          · rw [h, show (n + 1) % 2 = 0 by omega]; rfl
        clear hy nx A
        go_wp2
        go_roundg (m - (k + 1))
        case measure => omega
        case rel => exact ⟨k + 1, n + 1, by omega, by omega, by omega, by go_num, by go_num, fin.out, rfl⟩
    · obtain rfl : k = m := by omega
      have hltz : ¬ (k : Int) < (k : Int) := by omega
      have yz : (n : Int).tmod 2 = ((n % 2 : Nat) : Int) := by rw [show (2 : Int) = ((2 : Nat) : Int) from rfl, ← Int.ofNat_tmod]
      clear HC NX Z0
      have a2 : Hid ((n % 2 == 1) = S k) := A.out
      clear A
      generalize n % 2 = q at *
      go_wp2
      go_ret
      exact ⟨ret_bool (by rw [← a2.out, Bool.eq_iff_iff, beq_iff_eq, beq_iff_eq]; omega), rfl⟩

end Go.Proofs.YtnkhlohoaoiefaaDoor
