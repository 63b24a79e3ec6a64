/-
  hamm.isCheck, hamm.pointerOf, hamm.oddSet.
-/
import Derived.Test.YtdplmaofapnhhaaChecked
import Derived.Test.YtdplmaofapnhhaaBase
import Derived.Test.YtdplmaofapnhhaaHa
namespace Go.Proofs.Ytdplmaofapnhhaa
open Go.RowKit
set_option linter.unusedVariables false

theorem and_small : ∀ i : Fin 15, (bits BinOp.and IntKind.i64 (((i.1 : Nat) : Int) + 1) ((i.1 : Nat) : Int) == 0) = isC (i.1 + 1) := by decide
theorem xor_small : ∀ a b : Fin 16, bits BinOp.xor IntKind.i64 ((a.1 : Nat) : Int) ((b.1 : Nat) : Int) = ((a.1 ^^^ b.1 : Nat) : Int) := by decide

theorem isCheck_any (i : Nat) (hi : i < 15) (w : World) : Calls Try.prog 30 #[.int .i64 ((i : Int) + 1)] w fun e w' => e = .returned (.bool (isC (i + 1))) ∧ w' = w := by
  have e : (bits BinOp.and IntKind.i64 ((i : Int) + 1) (i : Int) == 0) = isC (i + 1) := and_small ⟨i, hi⟩
  generalize isC (i + 1) = r at *
  go_enter Try.func30, Try.ntmps30
  go_wp2
  go_ret
  exact ⟨rfl, rfl⟩

theorem pointerOf_any (x : Wd) (hl : x.l.length ≤ 15) (w : World) (hx : Bits w x) : Calls Try.prog 31 #[x.v] w fun e w' => e = .returned (.int .i64 (pf 1 x.l : Nat)) ∧ Qt w w' := by
  obtain ⟨a, c, l⟩ := x
  obtain ⟨h1, h2, _, b, o, h4, h5⟩ := hx
  simp only at h1 h2 h4 h5 hl
  simp only [Wd.v]
  obtain ⟨S, hS⟩ : ∃ S : Nat → Nat, ∀ k, S k = pf 1 (l.take k) := ⟨_, fun _ => rfl⟩
  obtain ⟨B, hB⟩ : ∃ B : Nat → Bool, ∀ k, B k = l.getD k false := ⟨_, fun _ => rfl⟩
  have HC : Hid (∀ i, i < l.length → w.cell? ⟨b, o + i, none⟩ = some (.bool (B i))) := fun i hi => by rw [hB]; exact h5 i hi
  have NX : Hid (∀ k, k < l.length → S (k + 1) = S k ^^^ (if B k then k + 1 else 0)) := fun k h => by rw [hS, hS, hB]; exact pf_take h
  have LT : Hid (∀ k, S k < 16) := fun k => by rw [hS]; exact pf_take_lt k hl
  have Z0 : Hid (S 0 = 0) := hS 0
  have ZN : pf 1 l = S l.length := by rw [hS, List.take_length]
  rw [ZN]
  clear h5 ZN hS hB
  generalize l.length = m at *
  go_enter Try.func31, Try.ntmps31
  go_wp2
  go_loopg [3, 8] m (fun gg s3 s8 wr => ∃ k : Nat, k ≤ m ∧ m - k ≤ gg ∧ s8 = .int .i64 k ∧ s3 = .int .i64 (S k : Nat) ∧ Aside (Qt w wr))
  case atStart => exact ⟨0, Nat.zero_le _, by omega, rfl, by rw [Z0.out]; rfl, Qt.refl _⟩
  case round =>
    obtain ⟨k, hk, hgg, rfl, rfl, X⟩ := hrel
    by_cases hlt : k < m
    · have hltz : (k : Int) < (m : Int) := by omega
      obtain rfl := h4 (by omega)
      have e1 := X.out.cell (HC.out k hlt)
      have l1 := LT.out k
      have nx := NX.out k hlt
      have xe : bits BinOp.xor IntKind.i64 (S k : Nat) ((k : Int) + 1) = ((S k ^^^ (k + 1) : Nat) : Int) := xor_small ⟨S k, l1⟩ ⟨k + 1, by omega⟩
      clear HC NX LT Z0 h4
      cases hy : B k
      · rw [hy] at e1 nx
        have nx' : Hid (S (k + 1) = S k) := by show _ = _; rw [nx]; simp
        clear hy nx xe
        generalize S k = A at *
        go_wp2
        go_roundg (m - (k + 1))
        case measure => omega
        case rel => exact ⟨k + 1, by omega, by omega, by go_num, by rw [nx'.out], X.out⟩
      · rw [hy] at e1 nx
        have nx' : Hid (S (k + 1) = S k ^^^ (k + 1)) := by show _ = _; rw [nx]; simp
        clear hy nx
        generalize S k ^^^ (k + 1) = A' at *
        generalize S k = A at *
        go_wp2
        go_roundg (m - (k + 1))
        case measure => omega
        case rel => exact ⟨k + 1, by omega, by omega, by go_num, by rw [nx'.out], X.out⟩
    · obtain rfl : k = m := by omega
      have hltz : ¬ (k : Int) < (k : Int) := by omega
      clear HC NX LT Z0
      go_wp2
      go_ret
      exact ⟨rfl, X.out⟩

theorem oddSet_any (x : Wd) (w : World) (hx : Bits w x) : Calls Try.prog 27 #[x.v] w fun e w' => e = .returned (.bool (ob x.l)) ∧ Qt w w' := by
  obtain ⟨a, c, l⟩ := x
  obtain ⟨h1, h2, _, b, o, h4, h5⟩ := hx
  simp only at h1 h2 h4 h5
  simp only [Wd.v]
  unfold maxLen at h2
  obtain ⟨S, hS⟩ : ∃ S : Nat → Bool, ∀ k, S k = ob (l.take k) := ⟨_, fun _ => rfl⟩
  obtain ⟨B, hB⟩ : ∃ B : Nat → Bool, ∀ k, B k = l.getD k false := ⟨_, fun _ => rfl⟩
  have HC : Hid (∀ i, i < l.length → w.cell? ⟨b, o + i, none⟩ = some (.bool (B i))) := fun i hi => by rw [hB]; exact h5 i hi
  have NX : Hid (∀ k, k < l.length → S (k + 1) = (S k != B k)) := fun k h => by rw [hS, hS, hB]; exact ob_take h
  have Z0 : Hid (S 0 = false) := hS 0
  have ZN : ob l = S l.length := by rw [hS, List.take_length]
  rw [ZN]
  clear h5 ZN hS hB
  generalize l.length = m at *
  go_enter Try.func27, Try.ntmps27
  go_wp2
  go_loopg [3, 8] m (fun gg s3 s8 wr => ∃ k : Nat, k ≤ m ∧ m - k ≤ gg ∧ s8 = .int .i64 k ∧ s3 = .bool (S k) ∧ Aside (Qt w wr))
  case atStart => exact ⟨0, Nat.zero_le _, by omega, rfl, by rw [Z0.out], Qt.refl _⟩
  case round =>
    obtain ⟨k, hk, hgg, rfl, rfl, X⟩ := hrel
    by_cases hlt : k < m
    · have hltz : (k : Int) < (m : Int) := by omega
      obtain rfl := h4 (by omega)
      have e1 := X.out.cell (HC.out k hlt)
      have nx : Hid (S (k + 1) = (S k != B k)) := NX.out k hlt
      clear HC NX Z0 h4
      generalize B k = b1 at *
      generalize S k = A at *
      cases b1 <;> cases A
      all_goals
        go_wp2
        go_roundg (m - (k + 1))
        case measure => omega
        case rel => exact ⟨k + 1, by omega, by omega, by go_num, by rw [nx.out]; rfl, X.out⟩
    · obtain rfl : k = m := by omega
      have hltz : ¬ (k : Int) < (k : Int) := by omega
      clear HC NX Z0
      go_wp2
      go_ret
      exact ⟨rfl, X.out⟩

end Go.Proofs.Ytdplmaofapnhhaa
