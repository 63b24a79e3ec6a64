/-
  alpha.resize, alpha.digits, quipuref.Digits: numbers as words.
-/
import Derived.Test.YtakggfogoobdnaaOwn
import Derived.Test.YtakggfogoobdnaaMk1
import Derived.Lib.RabinKarpLaws
namespace Go.Proofs.Ytakggfogoobdnaa
open Go.RowKit

abbrev bv (l : List Bool) : List Value := l.map Value.bool

/-- A store into a row whose cells go by their number. -/
theorem Row.setF {w : World} {B n k : Nat} {t : TypeId} {f : Nat → Value} (h : Row w B t ((List.range n).map f)) (v : Value) (g : Nat → Value) (hg : ∀ i, i < n → g i = if i = k then v else f i) : Row (w.setCell ⟨B, k, none⟩ v) B t ((List.range n).map g) := by
  have := h.set k v
  have e : ((List.range n).map f).set k v = (List.range n).map g := by
    apply List.ext_getElem
    · simp
    · intro i h1 h2
      simp at h1 h2
      rw [List.getElem_set]
      simp only [List.getElem_map, List.getElem_range]
      rw [hg i h2]
      by_cases hk : k = i
      · rw [if_pos hk, if_pos hk.symm]
      · rw [if_neg hk, if_neg (fun h => hk h.symm)]
  rw [e] at this
  exact this
theorem Row.madeF (w : World) (t : TypeId) (z : Value) (n : Nat) (f : Nat → Value) (hf : ∀ i, i < n → f i = z) : Row (w.alloc (.cells (madeCells #[z] n) t)) w.heap.size t ((List.range n).map f) := by
  have := Row.made w t z n
  have e : (List.range n).map f = List.replicate n z := by
    apply List.ext_getElem
    · simp
    · intro i h1 h2
      simp at h1
      simp [hf i h1]
  rw [e]
  exact this
theorem Row.cellF {w : World} {B n : Nat} {t : TypeId} {f : Nat → Value} (h : Row w B t ((List.range n).map f)) (k : Nat) (hk : k < n) : w.cell? ⟨B, k, none⟩ = some (f k) := by
  have := h.cell k (by simpa using hk)
  simpa using this

theorem bit_at (t j : Nat) (ht : t ≤ 256) : (bits BinOp.and IntKind.i64 ((t : Int) / 2 ^ j) 1 == 1) = t.testBit j := by
  have e : (t : Int) / 2 ^ j = ((t / 2 ^ j : Nat) : Int) := by simp
  have hl : t / 2 ^ j ≤ t := Nat.div_le_self _ _
  rw [e, and_one _ (by omega), Nat.testBit_eq_decide_div_mod_eq, Bool.eq_iff_iff]
  simp
  omega

set_option maxHeartbeats 2000000 in
theorem adigits_any (t s : Nat) (ht : t ≤ 256) (hs : s ≤ 8) (w : World) :
    Calls Try.prog 29 #[.int .i64 (t : Int), .int .i64 (s : Int)] w fun e w' => (∃ x : Wd, e = .returned x.v ∧ x.l = dg t s ∧ Bits w' x) ∧ Ext w w' := by
  have hmk := run_make_row' (P := Try.prog) 44 4 (.bool false) 1 Try.underlying44 info4 rfl .i64 .i64 s (by omega) (by omega)
  have st : Hid (∃ W, W = w.alloc (.cells (madeCells #[.bool false] s) 4) ∧ Ext w W ∧ Row W w.heap.size 4 ((List.range s).map (fun i => .bool (decide (i < 0) && t.testBit (s - 1 - i))))) :=
    ⟨_, rfl, (Ext.refl w).alloc _, Row.madeF w 4 (.bool false) s _ (fun i _ => by simp)⟩
  go_enter Try.func29, Try.ntmps29
  go_wp2
  obtain ⟨W, hW, hE, hR⟩ := st.out
  rw [← hW]
  have HE : Hid (Ext w W) := hE
  have HR : Hid (Row W w.heap.size 4 ((List.range s).map (fun i => .bool (decide (i < 0) && t.testBit (s - 1 - i))))) := hR
  clear hW hE hR st hmk
  go_loopg [6, 11] s (fun gg _ v wr => ∃ k : Nat, k ≤ s ∧ s - k ≤ gg ∧ v = .int .i64 k ∧ Aside (Ext w wr) ∧ Aside (Row wr w.heap.size 4 ((List.range s).map (fun i => .bool (decide (i < k) && t.testBit (s - 1 - i))))))
  case atStart => exact ⟨0, Nat.zero_le _, by omega, rfl, HE.out, HR.out⟩
  case round =>
    obtain ⟨k, hk, hgg, rfl, BW, A⟩ := hrel
    by_cases hlt : k < s
    · have hltz : (k : Int) < (s : Int) := by omega
      have hu := A.out.cellF k hlt
      have hf := A.out.fr k
      generalize Value.bool (decide (k < k) && t.testBit (s - 1 - k)) = u at hu
      have nx : Hid (Row (wr.setCell ⟨w.heap.size, k, none⟩ (.bool (bits BinOp.and IntKind.i64 ((t : Int) / 2 ^ (s - 1 - k)) 1 == 1))) w.heap.size 4 ((List.range s).map (fun i => .bool (decide (i < k + 1) && t.testBit (s - 1 - i))))) := by
        rw [bit_at t _ ht]
        refine A.out.setF _ _ (fun i _ => ?_)
        by_cases hi : i = k
        · subst hi; simp
        · rw [if_neg hi]
          have : decide (i < k + 1) = decide (i < k) := by rw [Bool.eq_iff_iff]; simp; omega
          rw [this]
      have nE : Hid (Ext w (wr.setCell ⟨w.heap.size, k, none⟩ (.bool (bits BinOp.and IntKind.i64 ((t : Int) / 2 ^ (s - 1 - k)) 1 == 1)))) := BW.out.setCell (Nat.le_refl _) _
      clear A
      go_wp2
      go_roundg (s - (k + 1))
      case measure => omega
      case rel => exact ⟨k + 1, by omega, by omega, by go_num, nE.out, nx.out⟩
    · have hk' : k = s := by omega
      have F : Hid ((∃ x : Wd, Value.slice (some ⟨w.heap.size, 0, none⟩) s s = x.v ∧ x.l = dg t s ∧ Bits wr x) ∧ Ext w wr) := by
        have h1 := A.out
        have e : (List.range s).map (fun i => Value.bool (decide (i < k) && t.testBit (s - 1 - i))) = bv (dg t s) := by
          show _ = List.map Value.bool _
          unfold dg
          rw [List.map_map]
          refine List.map_congr_left (fun i hi => ?_)
          have := List.mem_range.1 hi
          have hd : decide (i < k) = true := by simp; omega
          simp [hd]
        rw [e] at h1
        have h2 := h1.bits (by rw [dg_length]; unfold maxLen; omega)
        rw [dg_length] at h2
        exact ⟨⟨_, by simp only [Wd.v, dg_length], rfl, h2⟩, BW.out⟩
      clear A
      go_wp2
      go_ret
      obtain ⟨⟨x, hx, hz, hn⟩, hE⟩ := F.out
      exact ⟨⟨x, congrArg Ending.returned hx, hz, hn⟩, hE⟩

theorem odd_at (x j : Nat) : (((x / 2 ^ j : Nat) : Int) % 2 == 1) = x.testBit j := by
  generalize hq : x / 2 ^ j = q
  rw [Nat.testBit_eq_decide_div_mod_eq, hq, Bool.eq_iff_iff, beq_iff_eq, decide_eq_true_eq]
  omega

set_option maxHeartbeats 2000000 in
theorem digits_any (x s : Nat) (hx : x ≤ 256) (hs : s ≤ 8) (w : World) :
    Calls Try.prog 30 #[.int .i64 (x : Int), .int .i64 (s : Int)] w fun e w' => (∃ B : Nat, e = .returned (.slice (some ⟨B, 0, none⟩) s s) ∧ Row w' B 4 (bv (dg x s))) ∧ Ext w w' := by
  have hmk := run_make_row' (P := Try.prog) 44 4 (.bool false) 1 Try.underlying44 info4 rfl .i64 .i64 s (by omega) (by omega)
  have st : Hid (∃ W, W = w.alloc (.cells (madeCells #[.bool false] s) 4) ∧ Ext w W ∧ Row W w.heap.size 4 ((List.range s).map (fun i => .bool (decide (s ≤ i) && x.testBit (s - 1 - i))))) :=
    ⟨_, rfl, (Ext.refl w).alloc _, Row.madeF w 4 (.bool false) s _ (fun i hi => by
      have : decide (s ≤ i) = false := by simp; omega
      rw [this]; rfl)⟩
  go_enter Try.func30, Try.ntmps30
  go_wp2
  obtain ⟨W, hW, hE, hR⟩ := st.out
  rw [← hW]
  have HE : Hid (Ext w W) := hE
  have HR : Hid (Row W w.heap.size 4 ((List.range s).map (fun i => .bool (decide (s ≤ i) && x.testBit (s - 1 - i))))) := hR
  clear hW hE hR st hmk
  go_loopg [0, 6] s (fun gg u v wr => ∃ j : Nat, j ≤ s ∧ j ≤ gg ∧ v = .int .i64 ((j : Int) - 1) ∧ u = .int .i64 ((x / 2 ^ (s - j) : Nat) : Int) ∧ Aside (Ext w wr) ∧ Aside (Row wr w.heap.size 4 ((List.range s).map (fun i => .bool (decide (j ≤ i) && x.testBit (s - 1 - i))))))
  case atStart => exact ⟨s, Nat.le_refl _, Nat.le_refl _, rfl, by simp, HE.out, HR.out⟩
  case round =>
    obtain ⟨j, hj, hgg, rfl, rfl, BW, A⟩ := hrel
    cases j with
    | succ i =>
      have hltz : (i : Int) < (s : Int) := by omega
      have hu := A.out.cellF i (by omega)
      have hf := A.out.fr i
      generalize Value.bool (decide (i + 1 ≤ i) && x.testBit (s - 1 - i)) = u at hu
      have nx : Hid (Row (wr.setCell ⟨w.heap.size, i, none⟩ (.bool (((x / 2 ^ (s - (i + 1)) : Nat) : Int) % 2 == 1))) w.heap.size 4 ((List.range s).map (fun i' => .bool (decide (i ≤ i') && x.testBit (s - 1 - i'))))) := by
        rw [odd_at]
        refine A.out.setF _ _ (fun i' hi' => ?_)
        by_cases hi : i' = i
        · subst hi
          rw [if_pos rfl, show s - (i' + 1) = s - 1 - i' by omega]
          simp
        · rw [if_neg hi]
          have : decide (i ≤ i') = decide (i + 1 ≤ i') := by rw [Bool.eq_iff_iff]; simp; omega
          rw [this]
      have nE : Hid (Ext w (wr.setCell ⟨w.heap.size, i, none⟩ (.bool (((x / 2 ^ (s - (i + 1)) : Nat) : Int) % 2 == 1)))) := BW.out.setCell (Nat.le_refl _) _
      have nq : Hid (x / 2 ^ (s - i) = x / 2 ^ (s - (i + 1)) / 2) := by
        show _ = _
        rw [Nat.div_div_eq_div_mul, ← Nat.pow_succ, show (s - (i + 1)).succ = s - i by omega]
      have hq : x / 2 ^ (s - (i + 1)) ≤ 256 := Nat.le_trans (Nat.div_le_self _ _) hx
      clear A
      generalize x / 2 ^ (s - (i + 1)) = q at *
      go_wp2
      go_roundg i
      case measure => omega
      case rel => exact ⟨i, by omega, by omega, rfl, by rw [nq.out]; go_num, nE.out, nx.out⟩
    | zero =>
      have F : Hid (Row wr w.heap.size 4 (bv (dg x s))) := by
        have h1 := A.out
        have e : (List.range s).map (fun i => Value.bool (decide (0 ≤ i) && x.testBit (s - 1 - i))) = bv (dg x s) := by
          show _ = List.map Value.bool _
          unfold dg
          rw [List.map_map]
          refine List.map_congr_left (fun i hi => ?_)
          simp
        rw [e] at h1
        exact h1
      clear A
      go_wp2
      go_ret
      exact ⟨⟨_, rfl, F.out⟩, BW.out⟩

set_option maxHeartbeats 2000000 in
theorem resize_any (x a b : Nat) (hx : x ≤ 256) (ha : a ≤ 8) (hb : b ≤ 8) (w : World) :
    Calls Try.prog 28 #[.int .i64 (x : Int), .int .i64 (a : Int), .int .i64 (b : Int)] w fun e w' => e = .returned (.int .i64 (rsz x a b : Nat)) ∧ w' = w := by
  by_cases h : a ≤ b
  · have hr : rsz x a b = x * 2 ^ (b - a) := by simp [rsz, h]
    rw [hr]
    obtain ⟨e, he⟩ : ∃ e, b - a = e := ⟨_, rfl⟩
    rw [he]
    have hz : (a : Int) ≤ (b : Int) := by omega
    have hd : (b : Int) - (a : Int) = (e : Int) := by omega
    have h8 : e = 0 ∨ e = 1 ∨ e = 2 ∨ e = 3 ∨ e = 4 ∨ e = 5 ∨ e = 6 ∨ e = 7 ∨ e = 8 := by omega
    clear hr he h ha hb
    rcases h8 with rfl | rfl | rfl | rfl | rfl | rfl | rfl | rfl | rfl
    all_goals
      go_enter Try.func28, Try.ntmps28
      go_wp2
      go_ret
      exact ⟨ret_int (by simp), rfl⟩
  · have hr : rsz x a b = (x + 2 ^ (a - b) - 1) / 2 ^ (a - b) := by simp [rsz, h]
    rw [hr]
    obtain ⟨e, he⟩ : ∃ e, a - b = e := ⟨_, rfl⟩
    rw [he]
    have hz : ¬ (a : Int) ≤ (b : Int) := by omega
    have hd : (a : Int) - (b : Int) = (e : Int) := by omega
    have h8 : e = 1 ∨ e = 2 ∨ e = 3 ∨ e = 4 ∨ e = 5 ∨ e = 6 ∨ e = 7 ∨ e = 8 := by omega
    clear hr he h ha hb
    rcases h8 with rfl | rfl | rfl | rfl | rfl | rfl | rfl | rfl
    all_goals
      go_enter Try.func28, Try.ntmps28
      go_wp2
      go_ret
      exact ⟨ret_int (by omega), rfl⟩

end Go.Proofs.Ytakggfogoobdnaa
