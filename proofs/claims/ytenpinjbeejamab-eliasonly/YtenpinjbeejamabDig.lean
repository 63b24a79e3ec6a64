/-
  bits.Len64, bits.Len, elias.check, elias.digits, quipuref.Digits, quipuref.bin: a number's digits.
-/
import Derived.Test.YtenpinjbeejamabOwn
import Derived.Test.YtenpinjbeejamabLn
import Derived.Lib.RabinKarpLaws
namespace Go.Proofs.Ytenpinjbeejamab
open Go.RowKit

/-- What elias.check tells. -/
def ck (n : Int) : Int := if 1 ≤ n ∧ n ≤ 1048576 then 0 else 4

theorem check_any (n : Int) (w : World) : Calls Try.prog 11 #[.int .i64 n] w fun e w' => e = .returned (.int .i64 (ck n)) ∧ w' = w := by
  by_cases h1 : n < 1
  · have hc : ck n = 4 := if_neg (by omega)
    rw [hc]
    clear hc
    go_enter Try.func11, Try.ntmps11
    go_wp2
    go_ret
    exact ⟨rfl, rfl⟩
  · by_cases h2 : n > 1048576
    · have hc : ck n = 4 := if_neg (by omega)
      rw [hc]
      clear hc
      go_enter Try.func11, Try.ntmps11
      go_wp2
      go_ret
      exact ⟨rfl, rfl⟩
    · have hc : ck n = 0 := if_pos (by omega)
      rw [hc]
      clear hc
      go_enter Try.func11, Try.ntmps11
      go_wp2
      go_ret
      exact ⟨rfl, rfl⟩

abbrev bv (l : List Bool) : List Value := l.map Value.bool

/-- A store into a row whose cells go by their number. -/
theorem Row.setF {w : World} {B n k : Nat} {t : TypeId} {f : Nat → Value} (h : Row w B t ((List.range n).map f)) (v : Value) (g : Nat → Value) (hg : ∀ i, i < n → g i = if i = k then v else f i) : Row (w.setCell ⟨B, k, none⟩ v) B t ((List.range n).map g) := by
  have := h.set k v
  have e : ((List.range n).map f).set k v = (List.range n).map g := by
    apply List.ext_getElem
    · simp
    · intro i h1 h2
      simp at h1 h2
      rw [List.getElem_set]
      simp only [List.getElem_map, List.getElem_range]
      rw [hg i h2]
      by_cases hk : k = i
      · rw [if_pos hk, if_pos hk.symm]
      · rw [if_neg hk, if_neg (fun h => hk h.symm)]
  rw [e] at this
  exact this
theorem Row.madeF (w : World) (t : TypeId) (z : Value) (n : Nat) (f : Nat → Value) (hf : ∀ i, i < n → f i = z) : Row (w.alloc (.cells (madeCells #[z] n) t)) w.heap.size t ((List.range n).map f) := by
  have := Row.made w t z n
  have e : (List.range n).map f = List.replicate n z := by
    apply List.ext_getElem
    · simp
    · intro i h1 h2
      simp at h1
      simp [hf i h1]
  rw [e]
  exact this
theorem Row.cellF {w : World} {B n : Nat} {t : TypeId} {f : Nat → Value} (h : Row w B t ((List.range n).map f)) (k : Nat) (hk : k < n) : w.cell? ⟨B, k, none⟩ = some (f k) := by
  have := h.cell k (by simpa using hk)
  simpa using this

theorem bit_at (t j : Nat) (ht : t ≤ 1048576) : (bits BinOp.and IntKind.i64 ((t : Int) / 2 ^ j) 1 == 1) = t.testBit j := by
  have e : (t : Int) / 2 ^ j = ((t / 2 ^ j : Nat) : Int) := by simp
  have hl : t / 2 ^ j ≤ t := Nat.div_le_self _ _
  rw [e, and_one _ (by omega), Nat.testBit_eq_decide_div_mod_eq, Bool.eq_iff_iff]
  simp
  omega

set_option maxHeartbeats 2000000 in
theorem edigits_any (t : Nat) (ht : t ≤ 1048576) (w : World) :
    Calls Try.prog 13 #[.int .i64 (t : Int)] w fun e w' => (∃ x : Wd, e = .returned x.v ∧ x.l = dg t (nd t) ∧ Bits w' x) ∧ Ext w w' := by
  have hln := len_any t ht w
  have hs := nd_21 ht
  generalize nd t = s at *
  have hmk := run_make_row' (P := Try.prog) 22 4 (.bool false) 1 Try.underlying22 info4 rfl .i64 .i64 s (by omega) (by omega)
  have st : Hid (∃ W, W = w.alloc (.cells (madeCells #[.bool false] s) 4) ∧ Ext w W ∧ Row W w.heap.size 4 ((List.range s).map (fun i => .bool (decide (i < 0) && t.testBit (s - 1 - i))))) :=
    ⟨_, rfl, (Ext.refl w).alloc _, Row.madeF w 4 (.bool false) s _ (fun i _ => by simp)⟩
  go_enter Try.func13, Try.ntmps13
  go_wp2_with fail
  refine hln.mono ?_
  rintro e w1 ⟨rfl, rfl⟩
  clear hln
  go_wp2
  obtain ⟨W, hW, hE, hR⟩ := st.out
  rw [← hW]
  have HE : Hid (Ext w1 W) := hE
  have HR : Hid (Row W w1.heap.size 4 ((List.range s).map (fun i => .bool (decide (i < 0) && t.testBit (s - 1 - i))))) := hR
  clear hW hE hR st hmk
  go_loopg [4, 11] s (fun gg _ v wr => ∃ k : Nat, k ≤ s ∧ s - k ≤ gg ∧ v = .int .i64 k ∧ Aside (Ext w1 wr) ∧ Aside (Row wr w1.heap.size 4 ((List.range s).map (fun i => .bool (decide (i < k) && t.testBit (s - 1 - i))))))
  case atStart => exact ⟨0, Nat.zero_le _, by omega, rfl, HE.out, HR.out⟩
  case round =>
    obtain ⟨k, hk, hgg, rfl, BW, A⟩ := hrel
    by_cases hlt : k < s
    · have hltz : (k : Int) < (s : Int) := by omega
      have hu := A.out.cellF k hlt
      have hf := A.out.fr k
      generalize Value.bool (decide (k < k) && t.testBit (s - 1 - k)) = u at hu
      have nx : Hid (Row (wr.setCell ⟨w1.heap.size, k, none⟩ (.bool (bits BinOp.and IntKind.i64 ((t : Int) / 2 ^ (s - 1 - k)) 1 == 1))) w1.heap.size 4 ((List.range s).map (fun i => .bool (decide (i < k + 1) && t.testBit (s - 1 - i))))) := by
        rw [bit_at t _ ht]
        refine A.out.setF _ _ (fun i _ => ?_)
        by_cases hi : i = k
        · subst hi; simp
        · rw [if_neg hi]
          have : decide (i < k + 1) = decide (i < k) := by rw [Bool.eq_iff_iff]; simp; omega
          rw [this]
      have nE : Hid (Ext w1 (wr.setCell ⟨w1.heap.size, k, none⟩ (.bool (bits BinOp.and IntKind.i64 ((t : Int) / 2 ^ (s - 1 - k)) 1 == 1)))) := BW.out.setCell (Nat.le_refl _) _
      clear A
      go_wp2
      go_roundg (s - (k + 1))
      case measure => omega
      case rel => exact ⟨k + 1, by omega, by omega, by go_num, nE.out, nx.out⟩
    · have hk' : k = s := by omega
      have F : Hid ((∃ x : Wd, Value.slice (some ⟨w1.heap.size, 0, none⟩) s s = x.v ∧ x.l = dg t s ∧ Bits wr x) ∧ Ext w1 wr) := by
        have h1 := A.out
        have e : (List.range s).map (fun i => Value.bool (decide (i < k) && t.testBit (s - 1 - i))) = bv (dg t s) := by
          show _ = List.map Value.bool _
          unfold dg
          rw [List.map_map]
          refine List.map_congr_left (fun i hi => ?_)
          have := List.mem_range.1 hi
          have hd : decide (i < k) = true := by simp; omega
          simp [hd]
        rw [e] at h1
        have h2 := h1.bits (by rw [dg_length]; unfold maxLen; omega)
        rw [dg_length] at h2
        exact ⟨⟨_, by simp only [Wd.v, dg_length], rfl, h2⟩, BW.out⟩
      clear A
      go_wp2
      go_ret
      obtain ⟨⟨x, hx, hz, hn⟩, hE⟩ := F.out
      exact ⟨⟨x, congrArg Ending.returned hx, hz, hn⟩, hE⟩

theorem odd_at (x j : Nat) : (((x / 2 ^ j : Nat) : Int) % 2 == 1) = x.testBit j := by
  generalize hq : x / 2 ^ j = q
  rw [Nat.testBit_eq_decide_div_mod_eq, hq, Bool.eq_iff_iff, beq_iff_eq, decide_eq_true_eq]
  omega


end Go.Proofs.Ytenpinjbeejamab
