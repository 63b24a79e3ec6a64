/-
  slices.choosePivotOrdered, reverseRangeOrdered of words.
-/
import Derived.Test.YtdfjjjcaibadoabDoorSo
namespace Go.Proofs.YtdfjjjcaibadoabDoor
open Go.RowKit Go.Sort

set_option maxHeartbeats 2000000 in
theorem pivot_any (B c n a b : Nat) (d : Array Nat) (r : List Value) (w : World) (hr : UA w B d r) (hn : d.size = n) (hn2 : n ≤ 1000) (hab : a + 12 < b) (hb : b ≤ n) :
    Calls Tryd.prog 37 #[.slice (some ⟨B, 0, none⟩) n c, .int .i64 a, .int .i64 b] w
      fun e w' => ∃ p h : Nat, e = .returned (.tuple #[.int .i64 (p : Nat), .int .i64 (h : Nat)]) ∧ Hid (a ≤ p ∧ p < b) ∧ Hid (Ext w w') := by
  have AD : Hid (∀ (W : World) (C x s : Nat), UA W B d r → a < x → x + 1 < b → Box W C s → s ≤ 90 → C ≠ B → Calls Tryd.prog 47 #[.slice (some ⟨B, 0, none⟩) n c, .int .i64 x, .pointer (some ⟨C, 0, none⟩)] W
      fun e w' => ∃ u t : Nat, e = .returned (.int .i64 (u : Nat)) ∧ Hid (a ≤ u ∧ u < b) ∧ Hid (t ≤ s + 3) ∧ Hid (Box w' C t) ∧ Hid (UA w' B d r) ∧ Hid (KB C W w')) :=
    fun W C x s h1 h2 h3 h4 h5 h6 => adjacent_any B c n C a b x s d r W h1 hn hn2 hb h2 h3 h4 h5 h6
  have MD : Hid (∀ (W : World) (C x y z s : Nat), UA W B d r → (a ≤ x ∧ x < b) → (a ≤ y ∧ y < b) → (a ≤ z ∧ z < b) → Box W C s → s ≤ 90 → C ≠ B → Calls Tryd.prog 48 #[.slice (some ⟨B, 0, none⟩) n c, .int .i64 x, .int .i64 y, .int .i64 z, .pointer (some ⟨C, 0, none⟩)] W
      fun e w' => ∃ u t : Nat, e = .returned (.int .i64 (u : Nat)) ∧ Hid (a ≤ u ∧ u < b) ∧ Hid (t ≤ s + 3) ∧ Hid (Box w' C t) ∧ Hid (UA w' B d r) ∧ Hid (KB C W w')) :=
    fun W C x y z s h1 h2 h3 h4 h5 h6 h7 => median_any B c n C a b x y z s d r W h1 hn hb h2 h3 h4 h5 h6 h7
  obtain ⟨l, hl⟩ : ∃ l, b - a = l := ⟨_, rfl⟩
  obtain ⟨q, hq⟩ : ∃ q, l / 4 = q := ⟨_, rfl⟩
  obtain ⟨i, hi⟩ : ∃ i, a + q = i := ⟨_, rfl⟩
  obtain ⟨j, hj⟩ : ∃ j, a + q * 2 = j := ⟨_, rfl⟩
  obtain ⟨k, hk⟩ : ∃ k, a + q * 3 = k := ⟨_, rfl⟩
  have lz : (b : Int) - (a : Int) = (l : Int) := by omega
  have qz : (l : Int).tdiv 4 = (q : Int) := by
    rw [show (4 : Int) = ((4 : Nat) : Int) from rfl, ← Int.ofNat_tdiv, hq]
  have iz : (a : Int) + (q : Int) = (i : Int) := by omega
  have jz : (a : Int) + (q : Int) * 2 = (j : Int) := by omega
  have kz : (a : Int) + (q : Int) * 3 = (k : Int) := by omega
  have l8 : (l : Int) ≥ 8 := by omega
  have hq1 : q ≤ 1000 := by omega
  have hl1 : l ≤ 1000 := by omega
  have hi2 : i ≤ 1000 := by omega
  have hj2 : j ≤ 1000 := by omega
  have hk2 : k ≤ 1000 := by omega
  have hi1 : Hid (a ≤ i ∧ i < b) := ⟨by omega, by omega⟩
  have hj1 : Hid (a ≤ j ∧ j < b) := ⟨by omega, by omega⟩
  have hk1 : Hid (a ≤ k ∧ k < b) := ⟨by omega, by omega⟩
  have big : Hid (50 ≤ l → (a < i ∧ i + 1 < b) ∧ (a < j ∧ j + 1 < b) ∧ (a < k ∧ k + 1 < b)) := fun h => by omega
  have EX : Hid (Ext w (w.alloc (.cells #[.int .i64 0] 3))) := (Ext.refl w).alloc _
  have UB : Hid (UA (w.alloc (.cells #[.int .i64 0] 3)) B d r) := hr.ext EX.out
  have BX : Hid (Box (w.alloc (.cells #[.int .i64 0] 3)) w.heap.size 0) := by
    show (w.alloc _).heap[w.heap.size]? = _
    rw [heap_alloc_new]
    rfl
  have NE : Hid (w.heap.size ≠ B) := by have := hr.lt; show _ ≠ _; omega
  have KE : Hid (∀ W, KB w.heap.size (w.alloc (.cells #[.int .i64 0] 3)) W → Ext w W) := fun W h => h.ext EX.out (Nat.le_refl _)
  clear hr hn hl hq hi hj hk EX hb
  generalize hW : w.alloc (.cells #[.int .i64 0] 3) = W0 at *
  by_cases h50 : 50 ≤ l
  · have h50z : (l : Int) ≥ 50 := by omega
    obtain ⟨⟨g1, g2⟩, ⟨g3, g4⟩, ⟨g5, g6⟩⟩ := big.out h50
    have c1 := AD.out W0 _ i 0 UB.out g1 g2 BX.out (by omega) NE.out
    have G : Hid ((a < j ∧ j + 1 < b) ∧ (a < k ∧ k + 1 < b)) := ⟨⟨g3, g4⟩, ⟨g5, g6⟩⟩
    clear big g1 g2 g3 g4 g5 g6 h50
    go_enter Tryd.func37, Tryd.ntmps37
    go_wp2_with fail
    refine c1.mono ?_
    rintro e w2 ⟨u1, t1, rfl, p1, l1, x1, y1, k1⟩
    have c2 := AD.out w2 _ j t1 y1.out G.out.1.1 G.out.1.2 x1.out (by have := l1.out; omega) NE.out
    clear c1
    go_wp2_with fail
    refine c2.mono ?_
    rintro e w3 ⟨u2, t2, rfl, p2, l2, x2, y2, k2⟩
    have c3 := AD.out w3 _ k t2 y2.out G.out.2.1 G.out.2.2 x2.out (by have := l1.out; have := l2.out; omega) NE.out
    clear c2
    go_wp2_with fail
    refine c3.mono ?_
    rintro e w4 ⟨u3, t3, rfl, p3, l3, x3, y3, k3⟩
    clear c3
    have c4 := MD.out w4 _ u1 u2 u3 t3 y3.out p1.out p2.out p3.out x3.out (by have := l1.out; have := l2.out; have := l3.out; omega) NE.out
    go_wp2_with fail
    refine c4.mono ?_
    rintro e w5 ⟨p, t, rfl, P, T, X, Y, K5⟩
    have EE : Hid (Ext w w5) := KE.out _ (((k1.out.trans k2.out).trans k3.out).trans K5.out)
    have e1 := X.out.cell
    clear c4 MD KE
    by_cases t0 : t = 0
    · subst t0
      go_wp2
      go_ret2
      exact ⟨p, 1, rfl, P, EE⟩
    · by_cases t12 : t = 12
      · subst t12
        go_wp2
        go_ret2
        exact ⟨p, 2, rfl, P, EE⟩
      · have t0z : ((t : Int) == 0) = false := by rw [beq_eq_false_iff_ne]; omega
        have t12z : ((t : Int) == 12) = false := by rw [beq_eq_false_iff_ne]; omega
        go_wp2
        go_ret2
        exact ⟨p, 0, rfl, P, EE⟩
  · have h50z : ¬ (l : Int) ≥ 50 := by omega
    clear big h50
    have c4 := MD.out W0 _ i j k 0 UB.out hi1.out hj1.out hk1.out BX.out (by omega) NE.out
    go_enter Tryd.func37, Tryd.ntmps37
    go_wp2_with fail
    refine c4.mono ?_
    rintro e w5 ⟨p, t, rfl, P, T, X, Y, K5⟩
    have EE : Hid (Ext w w5) := KE.out _ (K5.out)
    have e1 := X.out.cell
    clear c4 MD KE
    by_cases t0 : t = 0
    · subst t0
      go_wp2
      go_ret2
      exact ⟨p, 1, rfl, P, EE⟩
    · by_cases t12 : t = 12
      · subst t12
        go_wp2
        go_ret2
        exact ⟨p, 2, rfl, P, EE⟩
      · have t0z : ((t : Int) == 0) = false := by rw [beq_eq_false_iff_ne]; omega
        have t12z : ((t : Int) == 12) = false := by rw [beq_eq_false_iff_ne]; omega
        go_wp2
        go_ret2
        exact ⟨p, 0, rfl, P, EE⟩

end Go.Proofs.YtdfjjjcaibadoabDoor
