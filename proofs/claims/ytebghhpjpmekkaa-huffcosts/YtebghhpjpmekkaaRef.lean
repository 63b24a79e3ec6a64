/-
  quipuref.Bit and quipuref.Huffman.
-/
import Derived.Test.YtebghhpjpmekkaaCs2
import Derived.Test.YtebghhpjpmekkaaTab
import Derived.Laws.BitsAllLaws
import Derived.Laws.Bits128
import Derived.BigQuiet
namespace Go.Proofs.Ytebghhpjpmekkaa
open Go.RowKit

theorem bit_ne (s i : Nat) (hs : s < 256) (hi : i < 8) (m : Int) (hm : m = ((2 ^ i : Nat) : Int)) : (Go.bits BinOp.and IntKind.u32 (s : Int) m != 0) = s.testBit i := by
  subst hm
  have h2 : 2 ^ i ≤ 2 ^ 7 := Nat.pow_le_pow_right (by omega) (by omega)
  rw [u32_and_nat s (2 ^ i) (by omega) (by omega)]
  cases h : s.testBit i
  · have : s &&& 2 ^ i = 0 := by
      apply Nat.eq_of_testBit_eq
      intro j
      rw [Nat.testBit_and, Nat.testBit_two_pow, Nat.zero_testBit]
      by_cases hj : i = j
      · subst hj; simp [h]
      · simp [hj]
    rw [this]
    rfl
  · have : s &&& 2 ^ i ≠ 0 := by
      intro h0
      have := congrArg (fun x => x.testBit i) h0
      simp only [Nat.testBit_and, Nat.testBit_two_pow, Nat.zero_testBit, h] at this
      simp at this
    simp [bne]
    omega

set_option maxHeartbeats 1000000 in
theorem bit_any (s i : Nat) (hs : s < 256) (hi : i < 8) (w : World) : Calls Try.prog 22 #[.int .u32 s, .int .i64 i] w fun e w' => e = .returned (.bool (s.testBit i)) ∧ w' = w := by
  have h : i = 0 ∨ i = 1 ∨ i = 2 ∨ i = 3 ∨ i = 4 ∨ i = 5 ∨ i = 6 ∨ i = 7 := by omega
  have key := bit_ne s i hs hi
  clear hs hi
  rcases h with rfl | rfl | rfl | rfl | rfl | rfl | rfl | rfl
  all_goals
    rw [← key _ rfl]
    clear key
    go_enter Try.func22, Try.ntmps22
    go_wp2
    go_ret
    exact ⟨rfl, rfl⟩

theorem ofInt_i64 (a : Nat) (ha : a < 4294967296) : (BitVec.ofInt 64 (a : Int)).toNat = a := by
  rw [BitVec.ofInt_natCast, BitVec.toNat_ofNat]; exact Nat.mod_eq_of_lt (by omega)
theorem i64_and_nat (a b : Nat) (ha : a < 4294967296) (hb : b < 4294967296) : Go.bits .and .i64 (a : Int) (b : Int) = ((a &&& b : Nat) : Int) := by
  have hx : a &&& b < 2 ^ 32 := Nat.and_lt_two_pow _ (by omega)
  show IntKind.i64.wrap ((BitVec.ofInt 64 (a : Int) &&& BitVec.ofInt 64 (b : Int)).toNat : Int) = _
  rw [BitVec.toNat_and, ofInt_i64 a ha, ofInt_i64 b hb, IntKind.wrap_i64]
  omega

theorem pow_wrap (s : Nat) (hs : s ≤ 8) : wrap64 ((2 : Int) ^ s) = ((2 ^ s : Nat) : Int) := by
  have h : s = 0 ∨ s = 1 ∨ s = 2 ∨ s = 3 ∨ s = 4 ∨ s = 5 ∨ s = 6 ∨ s = 7 ∨ s = 8 := by omega
  rcases h with rfl | rfl | rfl | rfl | rfl | rfl | rfl | rfl | rfl <;> simp [wrap64]

theorem info2 : (Try.prog.info? 2).map (fun i => (i.zero, i.size, i.bytes)) = some (some (.int .i64 0), 1, 8) := by kernel_rfl

/-- The table in memory. -/
abbrev tvl (M : Nat) (T : Nat → Nat) : List Value := (List.range M).map fun i => Value.int .i64 (T i : Int)

theorem tvl_cell {w : World} {B M : Nat} {T : Nat → Nat} (h : Row w B 2 (tvl M T)) (i : Nat) (hi : i < M) : w.cell? ⟨B, i, none⟩ = some (.int .i64 (T i : Int)) := by
  have := h.cell i (by simpa using hi)
  rw [this]
  simp

/-- One entry turned. -/
def updT (T : Nat → Nat) (s v : Nat) : Nat → Nat := fun i => if i = s then v else T i

theorem tvl_set {w : World} {B M : Nat} {T : Nat → Nat} (h : Row w B 2 (tvl M T)) (s v : Nat) : Row (w.setCell ⟨B, s, none⟩ (.int .i64 (v : Int))) B 2 (tvl M (updT T s v)) := by
  have := h.set s (.int .i64 (v : Int))
  have e : (tvl M T).set s (.int .i64 (v : Int)) = tvl M (updT T s v) := by
    apply List.ext_getElem
    · simp
    · intro i h1 h2
      simp only [List.getElem_set, List.getElem_map, List.getElem_range, updT]
      by_cases hi : s = i
      · simp [hi]
      · simp [hi, Ne.symm hi]
  rw [e] at this
  exact this

theorem TabAt.upd {wt : Nat → Nat} {n : Nat} {T : Nat → Nat} {s' s v : Nat} (h : TabAt wt n T s') (hs : s' < s) : TabAt wt n (updT T s v) s' := by
  have e : ∀ i, i ≤ s' → updT T s v i = T i := fun i hi => by unfold updT; rw [if_neg (by omega)]
  obtain ⟨h1, h2⟩ := h
  refine ⟨fun h0 => by rw [e s' (Nat.le_refl _)]; exact h1 h0, fun h0 => ?_⟩
  obtain ⟨g1, a, a0, a1, ap, ae⟩ := h2 h0
  refine ⟨fun b b0 bs bp => ?_, a, a0, a1, ap, ?_⟩
  · rw [e s' (Nat.le_refl _), e b (by omega), e (s' - b) (by omega)]
    exact g1 b b0 bs bp
  · rw [e s' (Nat.le_refl _), e a (by omega), e (s' - a) (by omega)]
    exact ae

/-- The least so far. -/
def Bst (T : Nat → Nat) (s a : Nat) (bi : Int) : Prop :=
  (bi = -1 ∧ ∀ b, 0 < b → b < a → b &&& s ≠ b) ∨ ∃ m : Nat, bi = m ∧ (∀ b, 0 < b → b < a → b &&& s = b → m ≤ T b + T (s - b)) ∧ ∃ b, 0 < b ∧ b < a ∧ b &&& s = b ∧ m = T b + T (s - b)

theorem Bst.start (T : Nat → Nat) (s : Nat) : Bst T s 1 (-1) := .inl ⟨rfl, fun b h1 h2 => by omega⟩
theorem Bst.skip {T : Nat → Nat} {s a : Nat} {bi : Int} (h : Bst T s a bi) (ha : a &&& s ≠ a) : Bst T s (a + 1) bi := by
  rcases h with ⟨h1, h2⟩ | ⟨m, h1, h2, b, b0, b1, b2⟩
  · refine .inl ⟨h1, fun b b0 b1 => ?_⟩
    rcases Nat.lt_succ_iff_lt_or_eq.1 b1 with h | rfl
    · exact h2 b b0 h
    · exact ha
  · refine .inr ⟨m, h1, fun b b0 b1 bp => ?_, b, b0, by omega, b2⟩
    rcases Nat.lt_succ_iff_lt_or_eq.1 b1 with h | rfl
    · exact h2 b b0 h bp
    · exact absurd bp ha
theorem Bst.take {T : Nat → Nat} {s a : Nat} {bi : Int} (h : Bst T s a bi) (ha : a &&& s = a) (a0 : 0 < a) (hlt : bi < 0 ∨ ((T a + T (s - a) : Nat) : Int) < bi) : Bst T s (a + 1) ((T a + T (s - a) : Nat) : Int) := by
  refine .inr ⟨_, rfl, fun b b0 b1 bp => ?_, a, a0, by omega, ha, rfl⟩
  rcases Nat.lt_succ_iff_lt_or_eq.1 b1 with hb | rfl
  · rcases h with ⟨_, h2⟩ | ⟨m, h1, h2, _⟩
    · exact absurd bp (h2 b b0 hb)
    · have := h2 b b0 hb bp
      omega
  · exact Nat.le_refl _
theorem Bst.keep {T : Nat → Nat} {s a : Nat} {bi : Int} (h : Bst T s a bi) (hge : ¬ bi < 0) (hle : ¬ ((T a + T (s - a) : Nat) : Int) < bi) : Bst T s (a + 1) bi := by
  rcases h with ⟨h1, h2⟩ | ⟨m, h1, h2, b, b0, b1, b2⟩
  · omega
  · refine .inr ⟨m, h1, fun b b0 b1 bp => ?_, b, b0, by omega, b2⟩
    rcases Nat.lt_succ_iff_lt_or_eq.1 b1 with h | rfl
    · exact h2 b b0 h bp
    · omega
theorem Bst.range {T : Nat → Nat} {s a : Nat} {bi : Int} (h : Bst T s a bi) (hT : ∀ i, T i ≤ (i - 1) * 8388608) (hs : s < 256) (ha : a ≤ s) : -1 ≤ bi ∧ bi ≤ 2147483648 := by
  rcases h with ⟨h1, _⟩ | ⟨m, h1, _, b, b0, b1, _, b3⟩
  · omega
  · have := hT b
    have := hT (s - b)
    omega

theorem and_pred_lt {s : Nat} (h : s &&& (s - 1) ≠ 0) : 0 < s &&& (s - 1) ∧ s &&& (s - 1) < s ∧ (s &&& (s - 1)) &&& s = s &&& (s - 1) := by
  have h1 : s &&& (s - 1) ≤ s - 1 := Nat.and_le_right
  refine ⟨by omega, ?_, ?_⟩
  · rcases Nat.eq_zero_or_pos s with h0 | h0
    · subst h0; simp at h
    · omega
  · apply Nat.eq_of_testBit_eq
    intro i
    simp only [Nat.testBit_and]
    cases s.testBit i <;> simp

/-- The table's new entry. -/
theorem TabAt.new {wt : Nat → Nat} {n : Nat} {T : Nat → Nat} {s : Nat} {bi : Int} (hp : s &&& (s - 1) ≠ 0) (h : Bst T s s bi) (hT : ∀ i, T i ≤ (i - 1) * 8388608) (hb : bw wt n s ≤ 8388608) :
    ∃ m : Nat, bi = m ∧ TabAt wt n (updT T s (m + bw wt n s)) s ∧ m + bw wt n s ≤ (s - 1) * 8388608 := by
  obtain ⟨p0, p1, p2⟩ := and_pred_lt hp
  rcases h with ⟨_, h2⟩ | ⟨m, h1, h2, b, b0, b1, b2, b3⟩
  · exact absurd p2 (h2 _ p0 p1)
  · have e : ∀ i, i < s → updT T s (m + bw wt n s) i = T i := fun i hi => by unfold updT; rw [if_neg (by omega)]
    have es : updT T s (m + bw wt n s) s = m + bw wt n s := by simp [updT]
    refine ⟨m, h1, ⟨fun h0 => absurd h0 hp, fun _ => ⟨fun a a0 a1 a2 => ?_, b, b0, b1, b2, ?_⟩⟩, ?_⟩
    · rw [es, e a a1, e (s - a) (by omega)]
      have := h2 a a0 a1 a2
      omega
    · rw [es, e b b1, e (s - b) (by omega)]
      omega
    · have t1 := hT b
      have t2 := hT (s - b)
      omega

theorem bw_le {wt : Nat → Nat} (hw : ∀ i, wt i ≤ 1048576) (s : Nat) : ∀ k, bw wt k s ≤ k * 1048576
  | 0 => by simp [bw, bits]
  | k + 1 => by
    have ih := bw_le hw s k
    have h1 : (if s.testBit k then wt k else 0) ≤ 1048576 := by
      split
      · exact hw k
      · exact Nat.zero_le _
    rw [bw_succ, Nat.succ_mul]
    exact Nat.add_le_add ih h1

end Go.Proofs.Ytebghhpjpmekkaa
