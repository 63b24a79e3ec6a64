/-
  book.Near.
-/
import Derived.Test.YtfcleenbhadfhacLe
namespace Go.Proofs.Ytfcleenbhadfhac
open Go.RowKit

theorem near_bad (n : Int) (x : Um) (hb : ∀ y ∈ x.z, y < 4294967296) (q : Nat) (w : World) (hx : Us w x) (h : bke n x.z ≠ 0) : Calls Try.prog 11 #[.int .i64 n, x.v, .int .u32 (q : Nat)] w fun e w' => e = .returned (.tuple #[.int .i64 0, .int .i64 0, .int .i64 (bke n x.z)]) ∧ Ext w w' := by
  have c1 := book_any n x hb w hx
  have hz : (bke n x.z != 0) = true := by rw [bne_iff_ne]; exact h
  clear h hx hb
  generalize bke n x.z = E at *
  obtain ⟨a, c, g⟩ := x
  simp only [Um.v] at *
  generalize g.length = l at *
  go_enter Try.func11, Try.ntmps11
  go_wp2_with fail
  refine c1.mono ?_
  rintro e w' ⟨rfl, E1⟩
  have X1 : Aside (Ext w w') := E1
  clear c1 E1
  go_wp2
  go_ret3
  exact ⟨rfl, X1.out⟩

theorem checkOne_any (n : Int) (q : Nat) (hq : q < 4294967296) (W : World) : Calls Try.prog 14 #[.int .i64 n, .slice (some ⟨W.heap.size, 0, none⟩) 1 1] (W.alloc (.cells #[.int .u32 (q : Nat)] 22)) fun e w' => e = .returned (.int .i64 (ce n [q])) ∧ Ext W w' := by
  have c := checkWords_any n [q] (by simp) (fun x hx => by simp at hx; omega) W.heap.size 1 _ (heap_alloc_new W (.cells #[.int .u32 (q : Nat)] 22))
  exact c.mono fun e w' ⟨h1, h2⟩ => ⟨h1, by rw [h2]; exact (Ext.refl W).alloc _⟩

theorem near_range (n : Int) (x : Um) (hb : ∀ y ∈ x.z, y < 4294967296) (q : Nat) (hq : q < 4294967296) (w : World) (hx : Us w x) (h : bke n x.z = 0) (h2 : ce n [q] ≠ 0) : Calls Try.prog 11 #[.int .i64 n, x.v, .int .u32 (q : Nat)] w fun e w' => e = .returned (.tuple #[.int .i64 0, .int .i64 0, .int .i64 (ce n [q])]) ∧ Ext w w' := by
  have c1 := book_any n x hb w hx
  rw [h] at c1
  have c2 : Hid (∀ W : World, Calls Try.prog 14 #[.int .i64 n, .slice (some ⟨W.heap.size, 0, none⟩) 1 1] (W.alloc (.cells #[.int .u32 (q : Nat)] 22)) fun e w' => e = .returned (.int .i64 (ce n [q])) ∧ Ext W w') := fun W => checkOne_any n q hq W
  have hz : (ce n [q] != 0) = true := by rw [bne_iff_ne]; exact h2
  clear h hx hb h2
  generalize ce n [q] = E at *
  obtain ⟨a, c, g⟩ := x
  simp only [Um.v] at *
  generalize g.length = l at *
  go_enter Try.func11, Try.ntmps11
  go_wp2_with fail
  refine c1.mono ?_
  rintro e w' ⟨rfl, E1⟩
  have X1 : Aside (Ext w w') := E1
  clear c1 E1
  go_wp2_with fail
  refine (c2.out w').mono ?_
  rintro e w2 ⟨rfl, E2⟩
  have X2 : Aside (Ext w w2) := X1.out.trans E2
  clear c2 E2
  go_wp2
  go_ret3
  exact ⟨rfl, X2.out⟩

theorem near_none (n : Int) (x : Um) (hb : ∀ y ∈ x.z, y < 4294967296) (q : Nat) (hq : q < 4294967296) (w : World) (hx : Us w x) (h : bke n x.z = 0) (h2 : ce n [q] = 0) (hl : x.z.length = 0) : Calls Try.prog 11 #[.int .i64 n, x.v, .int .u32 (q : Nat)] w fun e w' => e = .returned (.tuple #[.int .i64 0, .int .i64 0, .int .i64 5]) ∧ Ext w w' := by
  have c1 := book_any n x hb w hx
  rw [h] at c1
  have c2 : Hid (∀ W : World, Calls Try.prog 14 #[.int .i64 n, .slice (some ⟨W.heap.size, 0, none⟩) 1 1] (W.alloc (.cells #[.int .u32 (q : Nat)] 22)) fun e w' => e = .returned (.int .i64 0) ∧ Ext W w') := fun W => by
    have := checkOne_any n q hq W
    rwa [h2] at this
  clear h hx hb h2
  obtain ⟨a, c, g⟩ := x
  simp only [Um.v] at *
  rw [hl] at c1 ⊢
  clear hl
  go_enter Try.func11, Try.ntmps11
  go_wp2_with fail
  refine c1.mono ?_
  rintro e w' ⟨rfl, E1⟩
  have X1 : Aside (Ext w w') := E1
  clear c1 E1
  go_wp2_with fail
  refine (c2.out w').mono ?_
  rintro e w2 ⟨rfl, E2⟩
  have X2 : Aside (Ext w w2) := X1.out.trans E2
  clear c2 E2
  go_wp2
  go_ret3
  exact ⟨rfl, X2.out⟩

theorem near_good (n : Nat) (x : Um) (q : Nat) (w : World) (hx : Us w x) (B : Book n x.z) (hq : q < 2 ^ n) (hl : 0 < x.z.length) : Calls Try.prog 11 #[.int .i64 n, x.v, .int .u32 (q : Nat)] w fun e w' => e = .returned (.tuple #[.int .i64 (bst x.z q x.z.length : Nat), .int .i64 (far (x.z.getD (bst x.z q x.z.length) 0) q : Nat), .int .i64 0]) ∧ Ext w w' := by
  have hM : 2 ^ n ≤ 2 ^ 12 := Nat.pow_le_pow_right (by omega) B.bits
  have hb : ∀ y ∈ x.z, y < 4096 := fun y hy => by have := B.low y hy; omega
  have c1 := book_any n x (fun y hy => by have := hb y hy; omega) w hx
  rw [B.told] at c1
  have c2 : Hid (∀ W : World, Calls Try.prog 14 #[.int .i64 n, .slice (some ⟨W.heap.size, 0, none⟩) 1 1] (W.alloc (.cells #[.int .u32 (q : Nat)] 22)) fun e w' => e = .returned (.int .i64 0) ∧ Ext W w') := fun W => by
    have := checkOne_any n q (by omega) W
    rwa [ce_good B.bits (fun x hx => by simp at hx; omega)] at this
  have c3 : Hid (∀ W, Ext w W → Calls Try.prog 21 #[x.v, .int .u32 (q : Nat)] W fun e w' => e = .returned (.tuple #[.int .i64 (bst x.z q x.z.length : Nat), .int .i64 (far (x.z.getD (bst x.z q x.z.length) 0) q : Nat)]) ∧ Ext W w') := fun W E => nearest_any x B.few hl hb q (by omega) W (hx.ext E)
  have lz : ((x.z.length : Int) == 0) = false := by rw [beq_eq_false_iff_ne]; omega
  have few := B.few
  clear hM hb B hx hq
  generalize far (x.z.getD (bst x.z q x.z.length) 0) q = F at *
  generalize bst x.z q x.z.length = P at *
  obtain ⟨a, c, g⟩ := x
  simp only [Um.v] at *
  generalize g.length = l at *
  go_enter Try.func11, Try.ntmps11
  go_wp2_with fail
  refine c1.mono ?_
  rintro e w' ⟨rfl, E1⟩
  have X1 : Aside (Ext w w') := E1
  clear c1 E1
  go_wp2_with fail
  refine (c2.out w').mono ?_
  rintro e w2 ⟨rfl, E2⟩
  have X2 : Aside (Ext w w2) := X1.out.trans E2
  clear c2 E2
  have c4 := c3.out w2 X2.out
  clear c3
  go_wp2_with fail
  refine c4.mono ?_
  rintro e w3 ⟨rfl, E3⟩
  have X3 : Aside (Ext w w3) := X2.out.trans E3
  clear c4 E3
  go_wp2
  go_ret3
  exact ⟨rfl, X3.out⟩

end Go.Proofs.Ytfcleenbhadfhac
