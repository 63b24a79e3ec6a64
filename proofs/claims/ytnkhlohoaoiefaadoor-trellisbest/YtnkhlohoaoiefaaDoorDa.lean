/-
  trellis.dataIn, trellis.check, (trellis.path).data.
-/
import Derived.Test.YtnkhlohoaoiefaaDoorLo
namespace Go.Proofs.YtnkhlohoaoiefaaDoor
open Go.RowKit
set_option linter.unusedVariables false

theorem ofInt_i64 (a : Nat) (ha : a < 4294967296) : (BitVec.ofInt 64 (a : Int)).toNat = a := by
  rw [BitVec.ofInt_natCast, BitVec.toNat_ofNat]; exact Nat.mod_eq_of_lt (by omega)
theorem i64_and_nat (a b : Nat) (ha : a < 4294967296) (hb : b < 4294967296) : Go.bits .and .i64 (a : Int) (b : Int) = ((a &&& b : Nat) : Int) := by
  have hx : a &&& b < 2 ^ 32 := Nat.and_lt_two_pow _ (by omega)
  show IntKind.i64.wrap ((BitVec.ofInt 64 (a : Int) &&& BitVec.ofInt 64 (b : Int)).toNat : Int) = _
  rw [BitVec.toNat_and, ofInt_i64 a ha, ofInt_i64 b hb, IntKind.wrap_i64]
  omega
theorem bit_at (t j : Nat) (ht : t < 65536) : (bits BinOp.and IntKind.i64 ((t : Int) / 2 ^ j) 1 == 1) = t.testBit j := by
  have e : (t : Int) / 2 ^ j = ((t / 2 ^ j : Nat) : Int) := by simp
  have hl : t / 2 ^ j ≤ t := Nat.div_le_self _ _
  rw [e, show (1 : Int) = ((1 : Nat) : Int) from rfl, i64_and_nat _ _ (by omega) (by omega), Nat.and_one_is_mod, Nat.testBit_eq_decide_div_mod_eq, Bool.eq_iff_iff]
  simp
  omega

theorem dataIn_any (x : Wd) (hm : x.l.length ≤ 9223372036854775807) (w : World) : Calls Tryd.prog 15 #[x.v] w fun e w' => e = .returned (.int .i64 (((x.l.length / 2 : Nat) : Int) - 2)) ∧ w' = w := by
  simp only [Wd.v]
  generalize x.l.length = n at *
  have yz : (n : Int).tdiv 2 = ((n / 2 : Nat) : Int) := by rw [show (2 : Int) = ((2 : Nat) : Int) from rfl, ← Int.ofNat_tdiv]
  have hb : n / 2 ≤ n := Nat.div_le_self _ _
  generalize n / 2 = m at *
  have e1 : wrap64 (m : Int) = m := by simp only [wrap64]; omega
  have e2 : wrap64 ((m : Int) - 2) = (m : Int) - 2 := by simp only [wrap64]; omega
  go_enter Tryd.func15, Tryd.ntmps15
  go_wp2
  go_ret
  exact ⟨rfl, rfl⟩

/-- What is wrong with bits to be read. -/
def ge (n : Nat) : Nat := if n % 2 = 1 ∨ n < 4 then 3 else if 12 < n / 2 - 2 then 1 else 0
theorem check_any (x : Wd) (hm : x.l.length ≤ 9223372036854775807) (w : World) : Calls Tryd.prog 12 #[x.v] w fun e w' => e = .returned (.int .i64 (ge x.l.length : Nat)) ∧ w' = w := by
  have c := dataIn_any x hm w
  simp only [Wd.v] at *
  generalize hn : x.l.length = n at *
  have yz : (n : Int).tmod 2 = ((n % 2 : Nat) : Int) := by rw [show (2 : Int) = ((2 : Nat) : Int) from rfl, ← Int.ofNat_tmod]
  have C : Hid (Calls Tryd.prog 15 #[.slice x.a n x.c] w fun e w' => e = .returned (.int .i64 (((n / 2 : Nat) : Int) - 2)) ∧ w' = w) := c
  clear c
  by_cases h1 : n % 2 = 1
  · have e : ge n = 3 := if_pos (.inl h1)
    rw [e]
    rw [h1] at yz
    clear e C
    go_enter Tryd.func12, Tryd.ntmps12
    go_wp2
    go_ret
    exact ⟨rfl, rfl⟩
  · have h0 : n % 2 = 0 := by omega
    rw [h0] at yz
    by_cases h2 : n < 4
    · have e : ge n = 3 := if_pos (.inr h2)
      rw [e]
      have hz : ((n / 2 : Nat) : Int) - 2 < 0 := by omega
      clear e
      go_enter Tryd.func12, Tryd.ntmps12
      go_wp2_with fail
      refine C.out.mono ?_
      rintro e w1 ⟨rfl, rfl⟩
      clear C
      generalize n / 2 = m at *
      go_wp2
      go_ret
      exact ⟨rfl, rfl⟩
    · have hz : ¬ ((n / 2 : Nat) : Int) - 2 < 0 := by omega
      by_cases h3 : 12 < n / 2 - 2
      · have e : ge n = 1 := by
          unfold ge
          rw [if_neg (by omega), if_pos h3]
        have hz3 : (12 : Int) < ((n / 2 : Nat) : Int) - 2 := by omega
        rw [e]
        clear e h3
        go_enter Tryd.func12, Tryd.ntmps12
        go_wp2_with fail
        refine C.out.mono ?_
        rintro e w1 ⟨rfl, rfl⟩
        go_wp2_with fail
        refine C.out.mono ?_
        rintro e w1 ⟨rfl, rfl⟩
        clear C
        generalize n / 2 = m at *
        go_wp2
        go_ret
        exact ⟨rfl, rfl⟩
      · have e : ge n = 0 := by
          unfold ge
          rw [if_neg (by omega), if_neg h3]
        have hz3 : ¬ (12 : Int) < ((n / 2 : Nat) : Int) - 2 := by omega
        rw [e]
        clear e h3
        go_enter Tryd.func12, Tryd.ntmps12
        go_wp2_with fail
        refine C.out.mono ?_
        rintro e w1 ⟨rfl, rfl⟩
        go_wp2_with fail
        refine C.out.mono ?_
        rintro e w1 ⟨rfl, rfl⟩
        clear C
        generalize n / 2 = m at *
        go_wp2
        go_ret
        exact ⟨rfl, rfl⟩

set_option maxHeartbeats 2000000 in
theorem data_any (y d n : Nat) (hn : n ≤ 12) (hy : y < 2 ^ n) (w : World) : Calls Tryd.prog 14 #[pth (4 * y, d), .int .i64 (n : Int)] w fun e w' => (∃ B : Nat, e = .returned (.slice (some ⟨B, 0, none⟩) n n) ∧ Row w' B 4 (bv (dg y n))) ∧ Ext w w' := by
  have hmk := run_make_row' (P := Tryd.prog) 22 4 (.bool false) 1 Tryd.underlying22 info4 rfl .i64 .i64 n (by omega) (by omega)
  have hx : 4 * y < 65536 := by
    have : 2 ^ n ≤ 2 ^ 12 := Nat.pow_le_pow_right (by decide) hn
    omega
  obtain ⟨X, hX⟩ : ∃ X, 4 * y = X := ⟨_, rfl⟩
  have HX : Hid (4 * y = X) := hX
  rw [hX] at hx ⊢
  clear hX
  obtain ⟨F, hF⟩ : ∃ F : Nat → Nat → Bool, ∀ k i, F k i = if i < k then X.testBit (n + 1 - i) else false := ⟨_, fun _ _ => rfl⟩
  have F0 : ∀ i, i < n → Value.bool (F 0 i) = .bool false := fun i _ => by rw [hF]; rfl
  have FN : Hid (∀ k j, F (k + 1) j = if j = k then X.testBit (n + 1 - k) else F k j) := fun k j => by
    rw [hF, hF]
    by_cases h : j = k
    · rw [if_pos h, if_pos (by omega), h]
    · rw [if_neg h]
      by_cases h' : j < k
      · rw [if_pos h', if_pos (by omega)]
      · rw [if_neg h', if_neg (by omega)]
  have FE : Hid (bf (F n) n = bv (dg y n)) := by
    show _ = _
    rw [bf_bv]
    congr 1
    unfold bl dg
    refine List.map_congr_left (fun i hi => ?_)
    have hi' : i < n := List.mem_range.1 hi
    rw [hF, if_pos hi', ← HX.out, show 4 * y = 2 ^ 2 * y from rfl, Nat.testBit_two_pow_mul, decide_eq_true (by omega), Bool.true_and]
    congr 1
    omega
  have R1 : Hid (Row ((w.alloc (.cells #[.int .i64 (X : Int), .int .i64 (d : Int)] 39)).alloc (.cells (madeCells #[.bool false] n) 4)) w.heap.size 39 [.int .i64 (X : Int), .int .i64 (d : Int)]) := (row_last w [.int .i64 (X : Int), .int .i64 (d : Int)] 39).ext ((Ext.refl _).alloc _)
  have R2 : Hid (Row ((w.alloc (.cells #[.int .i64 (X : Int), .int .i64 (d : Int)] 39)).alloc (.cells (madeCells #[.bool false] n) 4)) (w.heap.size + 1) 4 (bf (F 0) n)) := by
    have := Row.madeF (w.alloc (.cells #[.int .i64 (X : Int), .int .i64 (d : Int)] 39)) 4 (.bool false) n _ F0
    rw [World.size_alloc] at this
    exact this
  have E2 : Hid (Ext w ((w.alloc (.cells #[.int .i64 (X : Int), .int .i64 (d : Int)] 39)).alloc (.cells (madeCells #[.bool false] n) 4))) := ((Ext.refl w).alloc _).alloc _
  clear hF F0
  go_enter Tryd.func14, Tryd.ntmps14
  go_wp2
  clear hmk
  obtain ⟨B, hB⟩ : ∃ B, w.heap.size + 1 = B := ⟨_, rfl⟩
  have HBB : Hid (w.heap.size < B) := by show _ < _; omega
  rw [hB] at R2 ⊢
  go_loopg [11] n (fun gg s11 wr => ∃ k : Nat, k ≤ n ∧ n - k ≤ gg ∧ s11 = .int .i64 k ∧ Aside (Ext w wr) ∧ Aside (Row wr w.heap.size 39 [.int .i64 (X : Int), .int .i64 (d : Int)]) ∧ Aside (Row wr B 4 (bf (F k) n)))
  case atStart => exact ⟨0, by omega, by omega, rfl, E2.out, R1.out, R2.out⟩
  case round =>
    obtain ⟨k, hk, hgg, rfl, E, P1, P2⟩ := hrel
    clear E2 R1 R2
    by_cases hlt : k < n
    · have hltz : (k : Int) < n := by omega
      have c1 := P1.out.cell 0 (by simp)
      simp only [List.getElem_cons_zero] at c1
      have c3 := P2.out.cellF k hlt
      have f3 := P2.out.fr k
      have nP2 : Hid (Row (wr.setCell ⟨B, k, none⟩ (.bool (X.testBit (n + 1 - k)))) B 4 (bf (F (k + 1)) n)) := P2.out.setF _ _ (fun j hj => by
        show Value.bool _ = _
        rw [FN.out k j]
        by_cases e : j = k
        · rw [if_pos e, if_pos e]
        · rw [if_neg e, if_neg e])
      have nE : Hid (Ext w (wr.setCell ⟨B, k, none⟩ (.bool (X.testBit (n + 1 - k))))) := E.out.setCell (Nat.le_of_lt HBB.out) _
      have nP1 : Hid (Row (wr.setCell ⟨B, k, none⟩ (.bool (X.testBit (n + 1 - k)))) w.heap.size 39 [.int .i64 (X : Int), .int .i64 (d : Int)]) := P1.out.other _ (by show B ≠ w.heap.size; have := HBB.out; omega) _
      clear FN P1 P2 E
      generalize F k k = u0 at *
      obtain ⟨s, hs⟩ : ∃ s, n + 1 - k = s := ⟨_, rfl⟩
      have hsz : 2 + (n : Int) - 1 - (k : Int) = (s : Int) := by omega
      have hs64 : s ≤ 13 := by omega
      rw [hs, ← bit_at X s hx] at nP2 nE nP1
      go_wp2
      go_roundg (n - (k + 1))
      case measure => omega
      case rel => exact ⟨k + 1, by omega, by omega, by go_num, nE.out, nP1.out, nP2.out⟩
    · obtain rfl : k = n := by omega
      have hltz : ¬ (k : Int) < k := by omega
      have E' : Hid (Ext w wr) := E.out
      have R : Hid (Row wr B 4 (bv (dg y k))) := by show Row _ _ _ _; rw [← FE.out]; exact P2.out
      clear FN P1 P2 E FE
      go_wp2
      go_ret
      exact ⟨⟨B, rfl, R.out⟩, E'.out⟩

end Go.Proofs.YtnkhlohoaoiefaaDoor
