/-
  quipuref.Round.
-/
import Derived.Test.YtioaohcnlgbnnaaRd
import Derived.Test.YtioaohcnlgbnnaaOw
import Derived.Test.YtioaohcnlgbnnaaEq
import Derived.Laws.OwnMore
namespace Go.Proofs.Ytioaohcnlgbnnaa
open Go.RowKit
set_option linter.unusedVariables false

/-- Do the last n bits stand at i? -/
def tw (n k i : Nat) (m : List Bool) : Bool := (m.drop i).take n == m.drop (k + 1)
theorem hit_yes {n k i : Nat} (hi : i < k + 1) (h : tw n k i (fr n k ++ [true]) = true) : fr n (k + 1) = fr n k ++ [false] := by
  have hl : (fr n k ++ [true]).length - n = k + 1 := by rw [List.length_append, fr_len, List.length_singleton]; omega
  show fr n k ++ [!hit n (fr n k ++ [true])] = _
  have : hit n (fr n k ++ [true]) = true := by
    unfold hit
    rw [hl]
    exact List.any_eq_true.2 ⟨i, List.mem_range.2 hi, h⟩
  rw [this]; rfl
theorem hit_no {n k : Nat} (h : ∀ i, i < k + 1 → tw n k i (fr n k ++ [true]) = false) : fr n (k + 1) = fr n k ++ [true] := by
  have hl : (fr n k ++ [true]).length - n = k + 1 := by rw [List.length_append, fr_len, List.length_singleton]; omega
  show fr n k ++ [!hit n (fr n k ++ [true])] = _
  have : hit n (fr n k ++ [true]) = false := by
    unfold hit
    rw [hl]
    refine List.any_eq_false.2 (fun i hi => ?_)
    have := h i (List.mem_range.1 hi)
    unfold tw at this
    rw [this]
    decide
  rw [this]; rfl

theorem elem31 : Try.prog.underlying 31 = some (.slice (Try.prog.elem 31)) := by kernel_rfl
theorem sizeOf31 (w : World) : (sizeOf (Try.prog.elem 31)).run Try.prog w = .ok 1 w := by kernel_rfl

/-- n bits from i on. -/
theorem slice_win {g q cap n i : Nat} (hq : i + n ≤ q) (hc : q ≤ cap) (hn : 1 ≤ n) (W : World) : (Instr.slice 31 (.slice (some ⟨g, 0, none⟩) q cap) (some (.int .i64 i)) (some (.int .i64 ((i : Int) + (n : Int)))) none).run Try.prog W = .ok (.slice (some ⟨g, i, none⟩) n (cap - i)) W := by
  rw [run_slice_lh W 31 _ q cap elem31 .i64 .i64 (i : Int) ((i : Int) + (n : Int)) (by omega) (by omega) (by omega), sizeOf31]
  show Result.ok (sliced _ _ _ _ 1) W = _
  rw [Int.toNat_natCast, show ((i : Int) + (n : Int)).toNat = i + n by omega]
  unfold sliced
  rw [if_neg (by omega), Nat.mul_one, Nat.add_sub_cancel_left]
  show Result.ok (Value.slice (some (Addr.add _ _)) _ _) W = _
  rw [Addr.add_lit, Nat.zero_add]
theorem slice_end {g q cap n i : Nat} (hq : i + n = q) (hc : q ≤ cap) (hn : 1 ≤ n) (W : World) : (Instr.slice 31 (.slice (some ⟨g, 0, none⟩) q cap) (some (.int .i64 i)) none none).run Try.prog W = .ok (.slice (some ⟨g, i, none⟩) n (cap - i)) W := by
  rw [run_slice_l W 31 _ q cap elem31 .i64 (i : Int) (by omega) (by omega), sizeOf31]
  show Result.ok (sliced _ _ _ _ 1) W = _
  rw [Int.toNat_natCast]
  unfold sliced
  rw [if_neg (by omega), Nat.mul_one, show q - i = n by omega]
  show Result.ok (Value.slice (some (Addr.add _ _)) _ _) W = _
  rw [Addr.add_lit, Nat.zero_add]

/-- Are the bits at i and those at j the same? -/
theorem win_any {g cap n i j q : Nat} {m : List Bool} {rest : List Value} (hm : m.length = q) (hi : i + n ≤ q) (hj : j + n ≤ q) (hc : q ≤ cap) (hcm : cap ≤ maxLen) (w : World) (hr : RB w g m rest) :
    Calls Try.prog 13 #[.slice (some ⟨g, i, none⟩) n (cap - i), .slice (some ⟨g, j, none⟩) n (cap - j)] w fun e w' => e = .returned (.bool ((m.drop i).take n == (m.drop j).take n)) ∧ Qt w w' := by
  have hx : ∀ i, i + n ≤ q → Bits w ⟨some ⟨g, i, none⟩, cap - i, (m.drop i).take n⟩ := fun i hi => by
    have hl : ((m.drop i).take n).length = n := by rw [List.length_take, List.length_drop]; omega
    refine ⟨by rw [hl]; show n ≤ cap - i; omega, Nat.le_trans (Nat.sub_le _ _) hcm, by simp, g, i, fun _ => rfl, fun k hk => ?_⟩
    have hk' : k < n := by rw [← hl]; exact hk
    rw [hr.cell (i + k) (by omega)]
    simp [List.getD_eq_getElem?_getD, hk']
  have hl : ∀ i, i + n ≤ q → ((m.drop i).take n).length = n := fun i hi => by rw [List.length_take, List.length_drop]; omega
  have := bools_any _ _ w (hx i hi) (hx j hj)
  simp only [Wd.v, hl i hi, hl j hj] at this
  exact this
theorem win_tw {g cap n i k q : Nat} {m : List Bool} {rest : List Value} (hm : m.length = q) (hi : i + n ≤ q) (hk : k + 1 + n = q) (hc : q ≤ cap) (hcm : cap ≤ maxLen) (w : World) (hr : RB w g m rest) :
    Calls Try.prog 13 #[.slice (some ⟨g, i, none⟩) n (cap - i), .slice (some ⟨g, k + 1, none⟩) n (cap - (k + 1))] w fun e w' => e = .returned (.bool (tw n k i m)) ∧ Qt w w' := by
  have := win_any hm hi (Nat.le_of_eq hk) hc hcm w hr
  rw [List.take_of_length_le (l := m.drop (k + 1)) (by rw [List.length_drop]; omega)] at this
  exact this

theorem own_row {w0 w : World} {v : Value} {l : List Bool} {q : Nat} (h : OwnB w0 w v l) (hq : l.length = q) (h0 : 0 < q) : ∃ g cap rest, v = .slice (some ⟨g, 0, none⟩) q cap ∧ w0.heap.size ≤ g ∧ q ≤ cap ∧ cap ≤ maxLen ∧ RB w g l rest ∧ q + rest.length = cap ∧ Ext w0 w := by
  obtain ⟨g, cap, rest, h1, h2, h3, h4, h5, h6⟩ := h.row (by omega)
  rw [hq] at h1 h3 h6
  exact ⟨g, cap, rest, h1, h2, h3, h4, h5, h6, h.1⟩

set_option maxHeartbeats 2000000 in
/-- quipuref.Round. -/
theorem refRound_any (n : Nat) (hn1 : 1 ≤ n) (hn6 : n ≤ 6) (w : World) : Calls Try.prog 14 #[.int .i64 n] w fun e w' => ∃ v, e = .returned v ∧ OwnB w w' v (fr n (2 ^ n - n)) := by
  have hnM : n < 2 ^ n := Nat.lt_two_pow_self
  have hM64 : 2 ^ n ≤ 2 ^ 6 := Nat.pow_le_pow_right (by omega) hn6
  obtain ⟨F, hF⟩ : ∃ F : Nat → List Bool, ∀ k, F k = fr n k := ⟨_, fun _ => rfl⟩
  have LN : Hid (∀ k, (F k).length = n + k) := fun k => by rw [hF]; exact fr_len n k
  have YES : Hid (∀ k i, i < k + 1 → tw n k i (F k ++ [true]) = true → F (k + 1) = F k ++ [false]) := fun k i hi h => by rw [hF] at *; rw [hF]; exact hit_yes hi h
  have NO : Hid (∀ k, (∀ i, i < k + 1 → tw n k i (F k ++ [true]) = false) → F (k + 1) = F k ++ [true]) := fun k h => by rw [hF] at *; rw [hF]; exact hit_no h
  have F0 : Hid (F 0 = List.replicate n false) := hF 0
  rw [← hF]
  clear hF
  have pw : wrap64 (2 ^ n) = ((2 ^ n : Nat) : Int) := by
    rw [show (2 : Int) ^ n = ((2 ^ n : Nat) : Int) by simp]
    unfold wrap64; omega
  obtain ⟨W1, mk, R1, E1⟩ := made_room n n (Nat.le_refl _) (by omega) w
  have O0 : Hid (OwnB w W1 (.slice (some ⟨w.heap.size, 0, none⟩) n n) (F 0)) := by
    have := OwnB.of_row (cap := n) E1 (Nat.le_refl _) R1 (by simp) (by unfold maxLen; omega)
    rw [List.length_replicate, ← F0.out] at this
    exact this
  clear R1 E1
  generalize 2 ^ n = M at *
  go_enter Try.func14, Try.ntmps14
  go_wp2
  go_loopg [3] M (fun gg s3 wr => ∃ k : Nat, n + k ≤ M ∧ M - (n + k) ≤ gg ∧ Aside (OwnB w wr s3 (F k)))
  case atStart => exact ⟨0, by omega, by omega, O0.out⟩
  case round =>
    obtain ⟨k, hk, hgg, O⟩ := hrel
    obtain ⟨x, rfl, hxl, hxb⟩ := O.out.bits
    have ln := LN.out k
    have hx2 : x.l.length = n + k := by rw [hxl, ln]
    have OO : Hid (OwnB w wr x.v (F k)) := O.out
    have BB : Hid (Bits wr x) := hxb
    have XL : Hid (x.l = F k) := hxl
    have HV : Hid (x.v = .slice x.a (n + k) x.c) := by show _ = _; rw [Wd.v, hx2]
    clear O hxb hxl
    rw [HV.out]
    by_cases hlt : n + k < M
    · have hltz : ((n : Int) + (k : Int)) < (M : Int) := by omega
      have yes := YES.out k
      have no := NO.out k
      have OE : Hid (OwnB wr (wr.alloc (.cells #[] 4)) (.slice (some ⟨wr.heap.size, 0, none⟩) 0 0) []) := OwnB.empty wr
      have BE : Hid (Bits (wr.alloc (.cells #[] 4)) x) := BB.out.ext ((Ext.refl wr).alloc _)
      have hfl : Hid (([] : List Bool).length + x.l.length ≤ 140737488355328) := by show _ ≤ _; rw [hx2]; simp; omega
      have hfl2 : Hid ((F k).length + 1 ≤ 140737488355328) := by show _ ≤ _; rw [ln]; omega
      have lm : (F k ++ [true]).length = n + k + 1 := by rw [List.length_append, ln]; rfl
      clear LN YES NO F0 O0 mk
      go_wp2_with (at_builtin; first | (refine wpList_appendBits rfl _ _ rfl wr _ _ (by rfl) [] OE.out x (by exact HV.out.symm) BE.out hfl.out ?_; intro v2 w2 O2; have O2' : Hid (OwnB wr w2 v2 (F k)) := by (rw [← XL.out]; exact O2)) | (refine wpList_appendBit rfl _ _ rfl wr w2 v2 (by rfl) (F k) O2'.out true (by rfl) hfl2.out ?_; intro v3 w3 O3; obtain ⟨g, cap, rest, rfl, hg, hcl, hcm, R3, hrl, X3⟩ := own_row O3 lm (by omega); have SE : ∀ W : World, (Instr.slice 31 (.slice (some ⟨g, 0, none⟩) (n + k + 1) cap) (some (.int .i64 ((k : Int) + 1))) none none).run Try.prog W = .ok (.slice (some ⟨g, k + 1, none⟩) n (cap - (k + 1))) W := fun W => slice_end (q := n + k + 1) (n := n) (i := k + 1) (by omega) hcl hn1 W; have ei : (n : Int) + (k : Int) + 1 - (n : Int) = (k : Int) + 1 := (by omega); clear O3))
      have XW : Hid (Ext w w3) := OO.out.1.trans X3
      have GW : Hid (w.heap.size ≤ g) := Nat.le_trans OO.out.1.size hg
      have RW : Hid (RB w3 g (F k ++ [true]) rest) := R3
      have RL : Hid (n + k + 1 + rest.length = cap) := hrl
      have CT : Hid (∀ i W, i < k + 1 → RB W g (F k ++ [true]) rest → Calls Try.prog 13 #[.slice (some ⟨g, i, none⟩) n (cap - i), .slice (some ⟨g, k + 1, none⟩) n (cap - (k + 1))] W fun e w' => e = .returned (.bool (tw n k i (F k ++ [true]))) ∧ Qt W w') := fun i W hi hr => win_tw lm (by omega) (by omega) hcl hcm W hr
      have SW : Hid (∀ i, i < k + 1 → ∀ W : World, (Instr.slice 31 (.slice (some ⟨g, 0, none⟩) (n + k + 1) cap) (some (.int .i64 (i : Int))) (some (.int .i64 ((i : Int) + (n : Int)))) none).run Try.prog W = .ok (.slice (some ⟨g, i, none⟩) n (cap - i)) W) := fun i hi W => slice_win (by omega) hcl hn1 W
      have SETF : Hid ((F k ++ [true]).set (n + k) false = F k ++ [false]) := by
        show _ = _
        rw [List.set_append, if_neg (by omega), ln, Nat.sub_self]
        rfl
      have YES : Hid (∀ i, i < k + 1 → tw n k i (F k ++ [true]) = true → F (k + 1) = F k ++ [false]) := yes
      have NO : Hid ((∀ i, i < k + 1 → tw n k i (F k ++ [true]) = false) → F (k + 1) = F k ++ [true]) := no
      have LM : Hid ((F k ++ [true]).length = n + k + 1) := lm
      have LF : Hid ((F k ++ [false]).length = n + k + 1) := by show _ = _; rw [List.length_append, ln]; rfl
      have CM : Hid (cap ≤ maxLen) := hcm
      have CL : Hid (n + k + 1 ≤ cap) := hcl
      clear yes no lm ln OE BE hfl hfl2 O2' R3 X3 hrl SE hg XL HV BB OO hcm
      go_loopg [6] (k + 1) (fun gg s6 wr2 => ∃ i : Nat, i ≤ k + 1 ∧ k + 1 - i ≤ gg ∧ s6 = .int .i64 i ∧ Aside (∀ j, j < i → tw n k j (F k ++ [true]) = false) ∧ Aside (RB wr2 g (F k ++ [true]) rest) ∧ Aside (Ext w wr2))
      case atStart => exact ⟨0, by omega, by omega, rfl, fun j hj => absurd hj (Nat.not_lt_zero _), RW.out, XW.out⟩
      case round =>
        obtain ⟨i, hi, hgi, rfl, AL, RR, XX⟩ := hrel
        have RR' : Hid (RB wr g (F k ++ [true]) rest) := RR.out
        have XX' : Hid (Ext w wr) := XX.out
        have AL' : Hid (∀ j, j < i → tw n k j (F k ++ [true]) = false) := AL.out
        clear RR XX AL RW XW
        by_cases hil : i < k + 1
        · have hilz : (i : Int) + (n : Int) < (n : Int) + (k : Int) + 1 := by omega
          have SW' := SW.out i hil
          have CT' := CT.out i wr hil RR'.out
          have YES' := YES.out i hil
          have AN : Hid (tw n k i (F k ++ [true]) = false → ∀ j, j < i + 1 → tw n k j (F k ++ [true]) = false) := fun h j hj => by
            rcases Nat.lt_succ_iff_lt_or_eq.1 hj with h' | rfl
            · exact AL'.out j h'
            · exact h
          clear AL' YES NO CT SW
          cases ht : tw n k i (F k ++ [true])
          · have AN' : Hid (∀ j, j < i + 1 → tw n k j (F k ++ [true]) = false) := AN.out ht
            rw [ht] at CT'
            clear YES' AN ht
            go_wp2_with fail
            refine CT'.mono ?_
            rintro e w4 ⟨rfl, Q4⟩
            have R4 : Hid (RB w4 g (F k ++ [true]) rest) := Row.ext RR'.out Q4.ext
            have X4 : Hid (Ext w w4) := XX'.out.trans Q4.ext
            clear CT' Q4 RR' XX'
            go_wp2
            go_roundg (k + 1 - (i + 1))
            case measure => omega
            case rel => exact ⟨i + 1, by omega, by omega, by go_num, AN'.out, R4.out, X4.out⟩
          · have NX : Hid (F (k + 1) = F k ++ [false]) := YES' ht
            rw [ht] at CT'
            clear YES' AN ht
            go_wp2_with fail
            refine CT'.mono ?_
            rintro e w4 ⟨rfl, Q4⟩
            have R4 : Hid (RB w4 g (F k ++ [true]) rest) := Row.ext RR'.out Q4.ext
            have X4 : Hid (Ext w w4) := XX'.out.trans Q4.ext
            clear CT' Q4 RR' XX'
            have e4 := R4.out.cell (n + k) (by rw [LM.out]; omega)
            have f4 := Row.fr R4.out (n + k)
            have R5 : Hid (RB (w4.setCell ⟨g, n + k, none⟩ (.bool false)) g (F k ++ [false]) rest) := by
              have := R4.out.set (n + k) (by rw [LM.out]; omega) false
              rw [SETF.out] at this
              exact this
            have X5 : Hid (Ext w (w4.setCell ⟨g, n + k, none⟩ (.bool false))) := X4.out.setCell GW.out _
            generalize (F k ++ [true]).getD (n + k) false = b4 at *
            have eq4 : (n : Int) + (k : Int) + 1 - 1 = ((n + k : Nat) : Int) := by omega
            have O6 : Hid (OwnB w (w4.setCell ⟨g, n + k, none⟩ (.bool false)) (.slice (some ⟨g, 0, none⟩) (n + k + 1) cap) (F (k + 1))) := by
              have := OwnB.of_row X5.out GW.out R5.out (by rw [LF.out]; exact RL.out) CM.out
              rw [LF.out, ← NX.out] at this
              exact this
            clear R5 X5 R4 X4
            go_wp2
            go_roundg (M - (n + (k + 1)))
            case measure => omega
            case rel => exact ⟨k + 1, by omega, by omega, O6.out⟩
        · obtain rfl : i = k + 1 := by omega
          have NX : Hid (F (k + 1) = F k ++ [true]) := NO.out AL'.out
          have O6 : Hid (OwnB w wr (.slice (some ⟨g, 0, none⟩) (n + k + 1) cap) (F (k + 1))) := by
            have := OwnB.of_row XX'.out GW.out RR'.out (by rw [LM.out]; exact RL.out) CM.out
            rw [LM.out, ← NX.out] at this
            exact this
          clear AL' YES NO CT SW RR' XX'
          go_wp2
          go_roundg (M - (n + (k + 1)))
          case measure => omega
          case rel => exact ⟨k + 1, by omega, by omega, O6.out⟩
    · have hkM : M - n = k := by omega
      clear LN YES NO F0 O0 mk XL BB
      go_wp2
      go_ret
      exact ⟨x.v, by rw [HV.out]; rfl, by rw [hkM]; exact OO.out⟩

end Go.Proofs.Ytioaohcnlgbnnaa
