/-
  quipukeep.bits; what a book that grows has, gathered.
-/
import Derived.Test.YtfcleenbhadfhacBd
import Derived.Test.YtfcleenbhadfhacNa
import Derived.Test.YtfcleenbhadfhacGw
import Derived.Test.YtfcleenbhadfhacBg
import Derived.Test.YtfcleenbhadfhacBl
namespace Go.Proofs.Ytfcleenbhadfhac
open Go.RowKit

theorem bitsB_any (n : Int) (w : World) : Calls Try.prog 7 #[.int .i64 n] w fun e w' => e = .returned (.bool (decide (0 ≤ n ∧ n ≤ 12))) ∧ w' = w := by
  by_cases h0 : 0 ≤ n
  · by_cases h1 : n ≤ 12
    · go_enter Try.func7, Try.ntmps7
      go_wp2
      go_ret
      exact ⟨ret_bool (by simp; omega), rfl⟩
    · have h1' : 12 < n := by omega
      go_enter Try.func7, Try.ntmps7
      go_wp2
      go_ret
      exact ⟨ret_bool (by simp; omega), rfl⟩
  · have h0' : n < 0 := by omega
    go_enter Try.func7, Try.ntmps7
    go_wp2
    go_ret
    exact ⟨ret_bool (by simp; omega), rfl⟩

/-- Where Grow has nothing to go through it tells an error. -/
theorem grow_err (n d : Int) (h : ¬ ((0 ≤ n ∧ n ≤ 12) ∧ 1 ≤ d ∧ d ≤ n)) (w : World) : Calls Try.prog 6 #[.int .i64 n, .int .i64 d] w fun e w' => (∃ E : Int, (E != 0) = true ∧ e = .returned (.tuple #[.slice none 0 0, .int .i64 E])) ∧ Ext w w' := by
  by_cases h0 : ce n [] = 0
  · obtain ⟨m, rfl, hm, _⟩ := ce_zero h0
    exact (grow_range m hm d (by omega) w).mono fun e w' ⟨h1, h2⟩ => ⟨⟨4, rfl, h1⟩, h2⟩
  · exact (grow_bits n d h0 w).mono fun e w' ⟨h1, h2⟩ => ⟨⟨_, by rw [bne_iff_ne]; exact h0, h1⟩, h2⟩

theorem u8_both : IntKind.u8.min = 0 ∧ IntKind.u8.max = 255 := by decide

theorem u8_of {x : Int} (h : (Lit.int .u8 x).wf = true) : 0 ≤ x ∧ x < 256 := by
  simp only [Lit.wf, u8_both, Bool.and_eq_true, decide_eq_true_eq] at h
  omega

structure Grown (n d : Nat) (g : List Nat) : Prop where
  book : Book n g
  many : 2 ^ n ≤ g.length * sz n d
  pos : 0 < g.length
  apart : 2 ≤ g.length → d ≤ lst n g (g.length - 1)
  full : ∀ q, q < 2 ^ n → far (g.getD (bst g q g.length) 0) q < d
  sums : ∀ i j, i < g.length → j < g.length → ∃ k, k < g.length ∧ g.getD k 0 = g.getD i 0 ^^^ g.getD j 0

theorem grown_is {n d : Nat} (hn : n ≤ 12) (hd : 1 ≤ d) (h : (gw d (2 ^ n)).length ≤ 64) : Grown n d (gw d (2 ^ n)) := by
  have B := gw_book hn h
  refine ⟨B, gilbert_bound (by omega) hd, ?_, fun h2 => ?_, fun q hq => ?_, fun i j hi hj => ?_⟩
  · obtain ⟨v, hv, _⟩ := gw_cover (d := d) (M := 2 ^ n) (q := 0) hd (Nat.two_pow_pos n)
    exact List.length_pos_of_mem hv
  · obtain ⟨_, a, b, hb, ha, e⟩ := B.isL h2
    have := gw_far d (2 ^ n) b a hb ha
    omega
  · obtain ⟨v, hv, hf⟩ := gw_cover (d := d) (M := 2 ^ n) (q := q) hd hq
    obtain ⟨i, hi, rfl⟩ := List.mem_iff_getElem.1 hv
    have := bst_le (gw d (2 ^ n)) q (gw d (2 ^ n)).length i hi
    rw [getD_get hi] at this
    omega
  · have := gw_sums (d := d) (n := n) (by omega) (List.getElem_mem hi) (List.getElem_mem hj)
    obtain ⟨k, hk, e⟩ := List.mem_iff_getElem.1 this
    exact ⟨k, hk, by rw [getD_get hk, getD_get hi, getD_get hj, e]⟩

/-- below, of one word. -/
theorem belowOne_any (n : Int) (q : Nat) (hq : q < 4294967296) (W : World) : Calls Try.prog 10 #[.int .i64 n, .slice (some ⟨W.heap.size, 0, none⟩) 1 1] (W.alloc (.cells #[.int .u32 (q : Nat)] 22)) fun e w' => e = .returned (.bool (ce n [q] == 0)) ∧ Ext W w' := by
  have c := refBelow_any n [q] (by simp) (fun x hx => by simp at hx; omega) W.heap.size 1 _ (heap_alloc_new W (.cells #[.int .u32 (q : Nat)] 22))
  exact c.mono fun e w' ⟨h1, h2⟩ => ⟨h1, by rw [h2]; exact (Ext.refl W).alloc _⟩

end Go.Proofs.Ytfcleenbhadfhac
