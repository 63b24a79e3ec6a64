/-
  ball.Apart once more (it only draws); book.nearest and its closure.
-/
import Derived.Test.YtdfjjjcaibadoabBw
namespace Go.Proofs.Ytdfjjjcaibadoab
open Go.RowKit

theorem apart_qt (a b : Nat) (ha : a < 4096) (hb : b < 4096) (w : World) : Calls Try.prog 48 #[.int .u32 a, .int .u32 b] w fun e w' => e = .returned (.int .i64 (far a b : Nat)) ∧ ∃ d, w' = w.drewN d := by
  have hl : a ^^^ b < 2 ^ 12 := Nat.xor_lt_two_pow (by omega) (by omega)
  have c1 := ones_any (a ^^^ b) (by omega) w
  have e := u32_xor_nat a b (by omega) (by omega)
  unfold far
  generalize a ^^^ b = X at *
  generalize pop X = P at *
  go_enter Try.func48, Try.ntmps48
  go_wp2_with fail
  refine c1.mono ?_
  rintro e w' ⟨rfl, d, rfl⟩
  clear c1
  go_wp2
  go_ret
  exact ⟨rfl, d, rfl⟩

/-- The closure of book.nearest: how far the word at a place is from q. -/
theorem from_any (a : Option Addr) (m c : Nat) (g : List Nat) (q k : Nat) (hk : k < m) (hg : g.getD k 0 < 4096) (hq : q < 4096) (p1 p2 : Addr) (w : World)
    (h1 : w.cell? p1 = some (.slice a m c)) (h2 : w.cell? p2 = some (.int .u32 (q : Nat))) (b o : Nat) (ha : a = some ⟨b, o, none⟩) (hc : w.cell? ⟨b, o + k, none⟩ = some (.int .u32 (g.getD k 0 : Nat))) :
    Calls Try.prog 47 #[.int .i64 (k : Nat), .pointer (some p1), .pointer (some p2)] w fun e w' => e = .returned (.int .i64 (far (g.getD k 0) q : Nat)) ∧ ∃ d, w' = w.drewN d := by
  subst ha
  have kz : (k : Int) < (m : Int) := by omega
  generalize g.getD k 0 = y at *
  have c1 : Hid (∀ d, Calls Try.prog 48 #[.int .u32 (y : Nat), .int .u32 (q : Nat)] (w.drewN d) fun e w' => e = .returned (.int .i64 (far y q : Nat)) ∧ ∃ d', w' = (w.drewN d).drewN d') := fun d => apart_qt y q hg hq _
  generalize far y q = F at *
  go_enter Try.func47, Try.ntmps47
  go_wp2
  go_quiet ((go_at_call 48; exact Calls.quiet_of (c1.out _)))
  go_wp2
  go_ret
  exact ⟨rfl, _, rfl⟩

theorem new_one (w : World) (v : Value) (t : TypeId) : (w.alloc (.cells #[v] t)).cell? ⟨w.heap.size, 0, none⟩ = some v := cell_one_new w v t 0 v rfl

theorem nearest_any (x : Um) (hl : x.z.length ≤ 64) (h0 : 0 < x.z.length) (hb : ∀ y ∈ x.z, y < 4096) (q : Nat) (hq : q < 4096) (w : World) (hx : Us w x) :
    Calls Try.prog 35 #[x.v, .int .u32 (q : Nat)] w fun e w' => e = .returned (.tuple #[.int .i64 (bst x.z q x.z.length : Nat), .int .i64 (far (x.z.getD (bst x.z q x.z.length) 0) q : Nat)]) ∧ Ext w w' := by
  obtain ⟨a, c, g⟩ := x
  obtain ⟨h1, h2, _, b, o, h4, h5⟩ := hx
  simp only at hl h0 hb h1 h2 h4 h5
  simp only [Um.v]
  unfold maxLen at h2
  have ha := h4 h0
  have HB : ∀ i, i < g.length → g.getD i 0 < 4096 := fun i hi => by rw [getD_get hi]; exact hb _ (List.getElem_mem hi)
  have FR : Hid (∀ (k : Nat) (W : World), k < g.length → Ext ((w.alloc (.cells #[.slice a g.length c] 22)).alloc (.cells #[.int .u32 (q : Nat)] 30)) W → Calls Try.prog 47 #[.int .i64 (k : Nat), .pointer (some ⟨w.heap.size, 0, none⟩), .pointer (some ⟨(w.alloc (.cells #[.slice a g.length c] 22)).heap.size, 0, none⟩)] W fun e w' => e = .returned (.int .i64 (far (g.getD k 0) q : Nat)) ∧ Ext W w') := fun k W hk E => by
    have e1 : ((w.alloc (.cells #[.slice a g.length c] 22)).alloc (.cells #[.int .u32 (q : Nat)] 30)).cell? ⟨w.heap.size, 0, none⟩ = some (.slice a g.length c) :=
      ((Ext.refl (w.alloc (.cells #[.slice a g.length c] 22))).alloc (.cells #[.int .u32 (q : Nat)] 30)).cell (new_one w (.slice a g.length c) 22)
    have e2 : ((w.alloc (.cells #[.slice a g.length c] 22)).alloc (.cells #[.int .u32 (q : Nat)] 30)).cell? ⟨(w.alloc (.cells #[.slice a g.length c] 22)).heap.size, 0, none⟩ = some (.int .u32 (q : Nat)) := new_one _ _ _
    have E0 : Ext w ((w.alloc (.cells #[.slice a g.length c] 22)).alloc (.cells #[.int .u32 (q : Nat)] 30)) := ((Ext.refl w).alloc _).alloc _
    have c := from_any a g.length c g q k hk (HB k hk) hq _ _ W (E.cell e1) (E.cell e2) b o ha ((E0.trans E).cell (h5 k hk))
    exact c.mono fun e w' ⟨h1, d, h2⟩ => ⟨h1, by rw [h2]; exact (Ext.refl W).drewN d⟩
  have ld : ((w.alloc (.cells #[.slice a g.length c] 22)).alloc (.cells #[.int .u32 (q : Nat)] 30)).cell? ⟨w.heap.size, 0, none⟩ = some (.slice a g.length c) :=
    ((Ext.refl (w.alloc (.cells #[.slice a g.length c] 22))).alloc (.cells #[.int .u32 (q : Nat)] 30)).cell (new_one w (.slice a g.length c) 22)
  have E0 : Hid (Ext w ((w.alloc (.cells #[.slice a g.length c] 22)).alloc (.cells #[.int .u32 (q : Nat)] 30))) := ((Ext.refl w).alloc _).alloc _
  have BL : Hid (∀ k, k ≤ g.length → bst g q k < g.length) := fun k hk => by
    rcases Nat.eq_zero_or_pos k with rfl | h
    · exact h0
    · have := bst_lt g q k h; omega
  have BN : Hid (∀ k, bst g q (k + 1) = if far (g.getD k 0) q < far (g.getD (bst g q k) 0) q then k else bst g q k) := fun k => rfl
  have F32 : Hid (∀ k, far (g.getD k 0) q ≤ 32) := fun k => far_le32 _ _
  clear h4 h5 hb HB ha
  have L : ∃ m, g.length = m := ⟨_, rfl⟩
  obtain ⟨m, hm⟩ := L
  rw [hm] at hl h0 h1 FR E0 BL ld ⊢
  clear hm
  generalize hW : (w.alloc (.cells #[.slice a m c] 22)) = W1 at *
  go_enter Try.func35, Try.ntmps35
  go_wp2
  generalize W1.alloc (.cells #[.int .u32 (q : Nat)] 30) = W2 at *
  go_loopg [7, 8, 12] m (fun gg s7 _ s wr => ∃ k : Nat, k ≤ m ∧ m - k ≤ gg ∧ s = .int .i64 k ∧ s7 = .int .i64 (bst g q k : Nat) ∧ Aside (Ext W2 wr))
  case atStart => exact ⟨0, Nat.zero_le _, by omega, rfl, rfl, Ext.refl _⟩
  case round =>
    obtain ⟨k, hk, hgg, rfl, rfl, BW⟩ := hrel
    by_cases hlt : k < m
    · have hltz : (k : Int) < (m : Int) := by omega
      have bl := BL.out k hk
      have c1 := FR.out k wr hlt BW.out
      have c2 : Hid (∀ W, Ext wr W → Calls Try.prog 47 #[.int .i64 (bst g q k : Nat), .pointer (some ⟨w.heap.size, 0, none⟩), .pointer (some ⟨W1.heap.size, 0, none⟩)] W fun e w' => e = .returned (.int .i64 (far (g.getD (bst g q k) 0) q : Nat)) ∧ Ext W w') := fun W E => FR.out _ W bl (BW.out.trans E)
      have f1 := F32.out k
      have f2 := F32.out (bst g q k)
      have bn := BN.out k
      generalize far (g.getD k 0) q = A at *
      generalize hB : bst g q k = B at *
      generalize far (g.getD B 0) q = C at *
      by_cases hz : A < C
      · have hzz : (A : Int) < (C : Int) := by omega
        rw [if_pos hz] at bn
        go_wp2_with fail
        refine c1.mono ?_
        rintro e w3 ⟨rfl, E3⟩
        have c3 := c2.out w3 E3
        have X3 : Aside (Ext W2 w3) := BW.out.trans E3
        clear c1 c2 E3
        go_wp2_with fail
        refine c3.mono ?_
        rintro e w4 ⟨rfl, E4⟩
        have X4 : Aside (Ext W2 w4) := X3.out.trans E4
        clear c3 E4
        go_wp2
        go_roundg (m - (k + 1))
        case measure => omega
        case rel => exact ⟨k + 1, by omega, by omega, by go_num, by rw [bn], X4.out⟩
      · have hzz : ¬ (A : Int) < (C : Int) := by omega
        rw [if_neg hz] at bn
        go_wp2_with fail
        refine c1.mono ?_
        rintro e w3 ⟨rfl, E3⟩
        have c3 := c2.out w3 E3
        have X3 : Aside (Ext W2 w3) := BW.out.trans E3
        clear c1 c2 E3
        go_wp2_with fail
        refine c3.mono ?_
        rintro e w4 ⟨rfl, E4⟩
        have X4 : Aside (Ext W2 w4) := X3.out.trans E4
        clear c3 E4
        go_wp2
        go_roundg (m - (k + 1))
        case measure => omega
        case rel => exact ⟨k + 1, by omega, by omega, by go_num, by rw [bn], X4.out⟩
    · obtain rfl : k = m := by omega
      have bl := BL.out k (Nat.le_refl _)
      have c1 := FR.out (bst g q k) wr bl BW.out
      obtain ⟨A, hA⟩ : ∃ A, A = far (g.getD (bst g q k) 0) q := ⟨_, rfl⟩
      obtain ⟨B, hB⟩ : ∃ B, B = bst g q k := ⟨_, rfl⟩
      rw [← hA, ← hB] at c1
      rw [← hB] at bl
      rw [← hB]
      have EQ : Aside (B = bst g q k ∧ A = far (g.getD (bst g q k) 0) q) := ⟨hB, hA⟩
      clear hA hB
      go_wp2_with fail
      refine c1.mono ?_
      rintro e w3 ⟨rfl, E3⟩
      have X3 : Aside (Ext w w3) := E0.out.trans (BW.out.trans E3)
      clear c1 E3
      go_wp2
      go_ret2
      exact ⟨by rw [← EQ.out.2, ← EQ.out.1]; rfl, X3.out⟩

end Go.Proofs.Ytdfjjjcaibadoab
