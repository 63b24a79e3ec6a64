/-
  span.Weights; quipuref.Longs of two rows that are the same.
-/
import Derived.Test.YtdfjjjcaibadoabFa
import Derived.Test.YtdfjjjcaibadoabFc
import Derived.Test.YtdfjjjcaibadoabRs
import Derived.Test.YtdfjjjcaibadoabOn
namespace Go.Proofs.Ytdfjjjcaibadoab
open Go.RowKit

theorem wt_snoc (S : List Nat) (a k : Nat) : wt (S ++ [a]) k = wt S k + (if pop a = k then 1 else 0) := by
  unfold wt
  rw [List.filter_append, List.length_append]
  by_cases h : pop a = k
  · simp [h]
  · simp [h]
theorem wt_le (S : List Nat) (k : Nat) : wt S k ≤ S.length := List.length_filter_le _ _

/-- The cells that hold how many of the words S have i bits, for i from 0 to n. -/
def wc (S : List Nat) (n : Nat) : List Value := (List.range (n + 1)).map (fun i => Value.int .i64 (wt S i : Nat))

theorem info2 : (Try.prog.info? 2).map (fun i => (i.zero, i.size, i.bytes)) = some (some (.int .i64 0), 1, 8) := by kernel_rfl

theorem weights_bad (n : Int) (x : Um) (hb : ∀ y ∈ x.z, y < 4294967296) (h : re n x.z ≠ 0) (w : World) (hx : Us w x) :
    Calls Try.prog 8 #[.int .i64 n, x.v] w fun e w' => e = .returned (.tuple #[.slice none 0 0, .int .i64 (re n x.z)]) ∧ Ext w w' := by
  have c1 := checkRows_any n x hb w hx
  have hz : (re n x.z != 0) = true := by rw [bne_iff_ne]; exact h
  clear h hb hx
  generalize re n x.z = R at *
  obtain ⟨a, c, g⟩ := x
  simp only [Um.v] at *
  generalize g.length = m at *
  go_enter Try.func8, Try.ntmps8
  go_wp2_with fail
  refine c1.mono ?_
  rintro e w' ⟨rfl, rfl⟩
  clear c1
  go_wp2
  go_ret2
  exact ⟨rfl, Ext.refl _⟩

theorem spn_pos (n : Nat) (g : List Nat) (h : ∀ x ∈ g, x < 2 ^ n) : 0 < (spn n g).length := List.length_pos_of_mem (spn_lin h).zero
theorem spn_few (n : Nat) (g : List Nat) : (spn n g).length ≤ 2 ^ n := by
  have := List.length_filter_le (inb g) (List.range (2 ^ n))
  rw [List.length_range] at this
  exact this

/-- What span.Weights tells. -/
def WO (w : World) (n : Nat) (S : List Nat) (e : Ending) (w' : World) : Prop :=
  ∃ B, e = .returned (.tuple #[.slice (some ⟨B, 0, none⟩) (n + 1) (n + 1), .int .i64 0]) ∧ w.heap.size ≤ B ∧ Row w' B 2 (wc S n) ∧ Ext w w'

set_option maxHeartbeats 2000000 in
theorem weights_good (n : Nat) (hn : n ≤ 12) (x : Um) (hl : x.z.length ≤ 8) (hb : ∀ y ∈ x.z, y < 2 ^ n) (w : World) (hx : Us w x) :
    Calls Try.prog 8 #[.int .i64 n, x.v] w fun e w' => Hid (WO w n (spn n x.z) e w') := by
  have c1 := checkRows_any n x (rows_low hn hb) w hx
  rw [re_good hn hl hb] at c1
  have EX : Hid (Ext w (w.alloc (.cells (madeCells #[.int .i64 0] (n + 1)) 2))) := (Ext.refl w).alloc _
  have c2 := sums_any x hl (rows_low hn hb) (w.alloc (.cells (madeCells #[.int .i64 0] (n + 1)) 2)) (hx.ext EX.out)
  have EQ : Hid (∀ ys : List Nat, ys.Pairwise (· < ·) → (∀ y, y ∈ ys ↔ inb x.z y = true) → ys = spn n x.z) := fun ys h1 h2 => rise_eq h1 (spn_rise n x.z) (fun y => (h2 y).trans (spn_mem hb).symm)
  have SP := spn_pos n x.z hb
  have SF := spn_few n x.z
  have hM : 2 ^ n ≤ 2 ^ 12 := Nat.pow_le_pow_right (by omega) hn
  have LOW : Hid (∀ k, k < (spn n x.z).length → (spn n x.z).getD k 0 < 2 ^ n) := fun k hk => by
    rw [getD_get hk]
    exact (spn_lin hb).low _ (List.getElem_mem hk)
  have POP : Hid (∀ y, y < 2 ^ n → pop y ≤ n) := fun y hy => pop_le hy (by omega)
  have R0 : Hid (Row (w.alloc (.cells (madeCells #[.int .i64 0] (n + 1)) 2)) w.heap.size 2 (wc [] n)) := Row.madeF w 2 (.int .i64 0) (n + 1) _ (fun i _ => by simp [wt_nil])
  obtain ⟨N, hN⟩ : ∃ N, n + 1 = N := ⟨_, rfl⟩
  have Nz : (n : Int) + 1 = (N : Int) := by omega
  have hmk := run_make_row' (P := Try.prog) 23 2 (.int .i64 0) 8 Try.underlying23 info2 rfl .i64 .i64 N (by omega) (by omega)
  clear hb hx
  unfold SO at c2
  unfold WO
  generalize spn n x.z = S at *
  obtain ⟨a, c, g⟩ := x
  simp only [Um.v] at *
  generalize g.length = m at *
  rw [hN] at EX c2 R0
  generalize hW : w.alloc (.cells (madeCells #[.int .i64 0] N) 2) = W0 at *
  have HN : Hid (n + 1 = N) := hN
  have HN12 : N ≤ 13 := by omega
  clear hN
  go_enter Try.func8, Try.ntmps8
  go_wp2_with fail
  refine c1.mono ?_
  rintro e w1 ⟨rfl, rfl⟩
  clear c1
  go_wp2_with fail
  refine c2.mono ?_
  intro e w2 h2
  obtain ⟨v, ys, rfl, O, p1, p2⟩ := h2.out
  have E := EQ.out ys p1 p2
  subst E
  obtain ⟨G, cap, r, rfl, hG, hcm, hcl, hrow⟩ := O.row SP
  have RG : Hid (Row w2 G 30 (uv ys ++ r)) := hrow
  have RB : Hid (Row w2 w1.heap.size 2 (wc [] n)) := R0.out.ext O.1
  have E2 : Hid (Ext w1 w2) := EX.out.trans O.1
  have NE : Hid (G ≠ w1.heap.size) := by have := R0.out.lt; show _ ≠ _; omega
  clear c2 h2 O p1 p2 R0 EX EQ hrow hW hmk hG hcm hcl
  obtain ⟨l, hl2⟩ : ∃ l, ys.length = l := ⟨_, rfl⟩
  rw [hl2] at SP SF LOW ⊢
  have HL : Hid (ys.length = l) := hl2
  clear hl2
  have NXT : Hid (∀ (W : World) (k : Nat), k < l → Row W w1.heap.size 2 (wc (ys.take k) n) → Row (W.setCell ⟨w1.heap.size, pop (ys.getD k 0), none⟩ (.int .i64 ((wt (ys.take k) (pop (ys.getD k 0)) : Nat) + 1))) w1.heap.size 2 (wc (ys.take (k + 1)) n)) := fun W k hk h => by
    refine h.setF _ _ (fun i hi => ?_)
    rw [List.take_succ_eq_append_getElem (by rw [HL.out]; exact hk), wt_snoc, ← getD_get]
    by_cases hi2 : i = pop (ys.getD k 0)
    · rw [if_pos hi2, if_pos hi2.symm, hi2]; simp
    · rw [if_neg hi2, if_neg (fun h => hi2 h.symm)]; rfl
  go_wp2
  go_loopg [22] l (fun gg s22 wr => ∃ k : Nat, k ≤ l ∧ l - k ≤ gg ∧ s22 = .int .i64 k ∧ Aside (KB w1.heap.size w2 wr) ∧ Aside (Row wr w1.heap.size 2 (wc (ys.take k) n)))
  case atStart => exact ⟨0, Nat.zero_le _, by omega, rfl, KB.refl _ _, by show Row _ _ _ _; rw [List.take_zero]; exact RB.out⟩
  case round =>
    clear RB
    obtain ⟨k, hk, hg, rfl, KW, RW⟩ := hrel
    by_cases hlt : k < l
    · have hltz : (k : Int) < (l : Int) := by omega
      have e1 : wr.cell? ⟨G, k, none⟩ = some (.int .u32 (ys.getD k 0 : Nat)) := by
        have h0 : k < ys.length := by rw [HL.out]; exact hlt
        have := (Row.kb RG.out KW.out NE.out).cell k (by simp; omega)
        rw [this, List.getElem_append_left (by simpa using h0), getD_get h0]
        simp
      have y1 := LOW.out k hlt
      have y2 := POP.out _ y1
      have c1 := ones_any (ys.getD k 0) (by omega) wr
      have nx := NXT.out
      have t1 : wt (ys.take k) (pop (ys.getD k 0)) ≤ 4096 := by
        have h1 := wt_le (ys.take k) (pop (ys.getD k 0))
        have h2 := List.length_take_le k ys
        omega
      have NX : Hid (∀ W, Row W w1.heap.size 2 (wc (ys.take k) n) → Row (W.setCell ⟨w1.heap.size, pop (ys.getD k 0), none⟩ (.int .i64 ((wt (ys.take k) (pop (ys.getD k 0)) : Nat) + 1))) w1.heap.size 2 (wc (ys.take (k + 1)) n)) := fun W h => nx W k hlt h
      have CE : Hid (∀ W, Row W w1.heap.size 2 (wc (ys.take k) n) → W.cell? ⟨w1.heap.size, pop (ys.getD k 0), none⟩ = some (.int .i64 (wt (ys.take k) (pop (ys.getD k 0)) : Nat))) := fun W h => h.cellF _ (by omega)
      have pz : (pop (ys.getD k 0) : Int) < (N : Int) := by have := HN.out; omega
      clear nx NXT LOW POP
      generalize wt (ys.take k) (pop (ys.getD k 0)) = A at *
      generalize pop (ys.getD k 0) = P at *
      generalize ys.getD k 0 = y at *
      go_wp2_with fail
      refine c1.mono ?_
      rintro e w3 ⟨rfl, d, hd⟩
      have q3 : Ext wr w3 := by rw [hd]; exact (Ext.refl wr).drewN d
      have R3 := RW.out.ext q3
      have e4 := CE.out w3 R3
      have f4 := R3.fr P
      have R4 := NX.out w3 R3
      have R4' : Hid (Row (w3.setCell ⟨w1.heap.size, P, none⟩ (.int .i64 ((A : Int) + 1))) w1.heap.size 2 (wc (ys.take (k + 1)) n)) := R4
      have K4 : Hid (KB w1.heap.size w2 (w3.setCell ⟨w1.heap.size, P, none⟩ (.int .i64 ((A : Int) + 1)))) := (KW.out.trans (KB.of_ext q3)).setCell _
      clear c1 hd q3 R3 R4 CE NX e1 KW RW
      go_wp2
      go_roundg (l - (k + 1))
      case measure => omega
      case rel => exact ⟨k + 1, by omega, by omega, by go_num, K4.out, R4'.out⟩
    · obtain rfl : k = l := by omega
      have hltz : ¬ (k : Int) < (k : Int) := by omega
      have RF : Hid (Row wr w1.heap.size 2 (wc ys n)) := by
        have := RW.out
        rw [List.take_of_length_le (by rw [HL.out]; exact Nat.le_refl _)] at this
        exact this
      have EF : Hid (Ext w1 wr) := KW.out.ext E2.out (Nat.le_refl _)
      clear RW KW
      go_wp2
      go_ret2
      exact ⟨w1.heap.size, by rw [HN.out]; rfl, Nat.le_refl _, RF.out, EF.out⟩

end Go.Proofs.Ytdfjjjcaibadoab
