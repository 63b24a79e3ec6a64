/-
  quipuref.Digits, quipuref.OddBits.
-/
import Derived.Test.YthdlljmcppndlaaRw
import Derived.Test.YthdlljmcppndlaaPol
namespace Go.Proofs.Ythdlljmcppndlaa
open Go.RowKit
set_option linter.unusedVariables false

theorem odd_at (x j : Nat) : (((x / 2 ^ j : Nat) : Int) % 2 == 1) = x.testBit j := by
  generalize hq : x / 2 ^ j = q
  rw [Nat.testBit_eq_decide_div_mod_eq, hq, Bool.eq_iff_iff, beq_iff_eq, decide_eq_true_eq]
  omega

set_option maxHeartbeats 2000000 in
theorem digits_any (x s : Nat) (hx : x ≤ 1048576) (hs : s ≤ 21) (w : World) :
    Calls Try.prog 15 #[.int .i64 (x : Int), .int .i64 (s : Int)] w fun e w' => (∃ B : Nat, e = .returned (.slice (some ⟨B, 0, none⟩) s s) ∧ Row w' B 4 (bv (dg x s))) ∧ Ext w w' := by
  have hmk := run_make_row' (P := Try.prog) 23 4 (.bool false) 1 Try.underlying23 info4 rfl .i64 .i64 s (by omega) (by omega)
  have st : Hid (∃ W, W = w.alloc (.cells (madeCells #[.bool false] s) 4) ∧ Ext w W ∧ Row W w.heap.size 4 ((List.range s).map (fun i => .bool (decide (s ≤ i) && x.testBit (s - 1 - i))))) :=
    ⟨_, rfl, (Ext.refl w).alloc _, Row.madeF w 4 (.bool false) s _ (fun i hi => by
      have : decide (s ≤ i) = false := by simp; omega
      rw [this]; rfl)⟩
  go_enter Try.func15, Try.ntmps15
  go_wp2
  obtain ⟨W, hW, hE, hR⟩ := st.out
  rw [← hW]
  have HE : Hid (Ext w W) := hE
  have HR : Hid (Row W w.heap.size 4 ((List.range s).map (fun i => .bool (decide (s ≤ i) && x.testBit (s - 1 - i))))) := hR
  clear hW hE hR st hmk
  go_loopg [0, 6] s (fun gg u v wr => ∃ j : Nat, j ≤ s ∧ j ≤ gg ∧ v = .int .i64 ((j : Int) - 1) ∧ u = .int .i64 ((x / 2 ^ (s - j) : Nat) : Int) ∧ Aside (Ext w wr) ∧ Aside (Row wr w.heap.size 4 ((List.range s).map (fun i => .bool (decide (j ≤ i) && x.testBit (s - 1 - i))))))
  case atStart => exact ⟨s, Nat.le_refl _, Nat.le_refl _, rfl, by simp, HE.out, HR.out⟩
  case round =>
    obtain ⟨j, hj, hgg, rfl, rfl, BW, A⟩ := hrel
    cases j with
    | succ i =>
      have hltz : (i : Int) < (s : Int) := by omega
      have hu := A.out.cellF i (by omega)
      have hf := A.out.fr i
      generalize Value.bool (decide (i + 1 ≤ i) && x.testBit (s - 1 - i)) = u at hu
      have nx : Hid (Row (wr.setCell ⟨w.heap.size, i, none⟩ (.bool (((x / 2 ^ (s - (i + 1)) : Nat) : Int) % 2 == 1))) w.heap.size 4 ((List.range s).map (fun i' => .bool (decide (i ≤ i') && x.testBit (s - 1 - i'))))) := by
        rw [odd_at]
        refine A.out.setF _ _ (fun i' hi' => ?_)
        by_cases hi : i' = i
        · subst hi
          rw [if_pos rfl, show s - (i' + 1) = s - 1 - i' by omega]
          simp
        · rw [if_neg hi]
          have : decide (i ≤ i') = decide (i + 1 ≤ i') := by rw [Bool.eq_iff_iff]; simp; omega
          rw [this]
      have nE : Hid (Ext w (wr.setCell ⟨w.heap.size, i, none⟩ (.bool (((x / 2 ^ (s - (i + 1)) : Nat) : Int) % 2 == 1)))) := BW.out.setCell (Nat.le_refl _) _
      have nq : Hid (x / 2 ^ (s - i) = x / 2 ^ (s - (i + 1)) / 2) := by
        show _ = _
        rw [Nat.div_div_eq_div_mul, ← Nat.pow_succ, show (s - (i + 1)).succ = s - i by omega]
      have hq : x / 2 ^ (s - (i + 1)) ≤ 1048576 := Nat.le_trans (Nat.div_le_self _ _) hx
      clear A
      generalize x / 2 ^ (s - (i + 1)) = q at *
      go_wp2
      go_roundg i
      case measure => omega
      case rel => exact ⟨i, by omega, by omega, rfl, by rw [nq.out]; go_num, nE.out, nx.out⟩
    | zero =>
      have F : Hid (Row wr w.heap.size 4 (bv (dg x s))) := by
        have h1 := A.out
        have e : (List.range s).map (fun i => Value.bool (decide (0 ≤ i) && x.testBit (s - 1 - i))) = bv (dg x s) := by
          show _ = List.map Value.bool _
          unfold dg
          rw [List.map_map]
          refine List.map_congr_left (fun i hi => ?_)
          simp
        rw [e] at h1
        exact h1
      clear A
      go_wp2
      go_ret
      exact ⟨⟨_, rfl, F.out⟩, BW.out⟩

theorem oddBits_any (x : Wd) (w : World) (hx : Bits w x) : Calls Try.prog 19 #[x.v] w fun e w' => e = .returned (.bool (xs (fun i => x.l.getD i false) x.l.length)) ∧ w' = w := by
  obtain ⟨a, c, l⟩ := x
  obtain ⟨h1, h2, _, b, o, h4, h5⟩ := hx
  simp only at h1 h2 h4 h5
  simp only [Wd.v]
  unfold maxLen at h2
  obtain ⟨S, hS⟩ : ∃ S : Nat → Bool, ∀ k, S k = xs (fun i => l.getD i false) k := ⟨_, fun _ => rfl⟩
  obtain ⟨B, hB⟩ : ∃ B : Nat → Bool, ∀ k, B k = l.getD k false := ⟨_, fun _ => rfl⟩
  have HC : Hid (∀ i, i < l.length → w.cell? ⟨b, o + i, none⟩ = some (.bool (B i))) := fun i hi => by rw [hB]; exact h5 i hi
  have NX : Hid (∀ k, k < l.length → S (k + 1) = (S k != B k)) := fun k h => by rw [hS, hS, hB]; rfl
  have Z0 : Hid (S 0 = false) := hS 0
  have ZN : xs (fun i => l.getD i false) l.length = S l.length := by rw [hS]
  rw [ZN]
  clear h5 ZN hS hB
  generalize l.length = m at *
  go_enter Try.func19, Try.ntmps19
  go_wp2
  go_loopg [3, 8] m (fun gg s3 s8 wr => ∃ k n : Nat, k ≤ m ∧ n ≤ k ∧ m - k ≤ gg ∧ s8 = .int .i64 k ∧ s3 = .int .i64 n ∧ Aside ((n % 2 == 1) = S k) ∧ wr = w)
  case atStart => exact ⟨0, 0, Nat.zero_le _, Nat.zero_le _, by omega, rfl, rfl, Z0.out.symm, rfl⟩
  case round =>
    obtain ⟨k, n, hk, hn, hgg, rfl, rfl, A, rfl⟩ := hrel
    by_cases hlt : k < m
    · have hltz : (k : Int) < (m : Int) := by omega
      obtain rfl := h4 (by omega)
      have e1 := HC.out k hlt
      have nx := NX.out k hlt
      clear HC NX Z0 h4
      cases hy : B k
      · rw [hy] at e1 nx
        have fin : Aside ((n % 2 == 1) = S (k + 1)) := by
          show _ = _
          rw [nx, ← A.out, Bool.bne_false]
        clear hy nx A
        go_wp2
        go_roundg (m - (k + 1))
        case measure => omega
        case rel => exact ⟨k + 1, n, by omega, by omega, by omega, by go_num, rfl, fin.out, rfl⟩
      · rw [hy] at e1 nx
        have fin : Aside (((n + 1) % 2 == 1) = S (k + 1)) := by
          show _ = _
          rw [nx, ← A.out]
          rcases Nat.mod_two_eq_zero_or_one n with h | h
          · rw [h, show (n + 1) % 2 = 1 by omega]; rfl
          · rw [h, show (n + 1) % 2 = 0 by omega]; rfl
        clear hy nx A
        go_wp2
        go_roundg (m - (k + 1))
        case measure => omega
        case rel => exact ⟨k + 1, n + 1, by omega, by omega, by omega, by go_num, by go_num, fin.out, rfl⟩
    · obtain rfl : k = m := by omega
      have hltz : ¬ (k : Int) < (k : Int) := by omega
      have yz : (n : Int).tmod 2 = ((n % 2 : Nat) : Int) := by rw [show (2 : Int) = ((2 : Nat) : Int) from rfl, ← Int.ofNat_tmod]
      clear HC NX Z0
      have a2 : Hid ((n % 2 == 1) = S k) := A.out
      clear A
      generalize n % 2 = q at *
      go_wp2
      go_ret
      exact ⟨ret_bool (by rw [← a2.out, Bool.eq_iff_iff, beq_iff_eq, beq_iff_eq]; omega), rfl⟩

end Go.Proofs.Ythdlljmcppndlaa
