/-
  slices.order2Ordered, medianOrdered, medianAdjacentOrdered, choosePivotOrdered, reverseRangeOrdered of words.
-/
import Derived.Test.YtdfjjjcaibadoabDoorSc
namespace Go.Proofs.YtdfjjjcaibadoabDoor
open Go.RowKit Go.Sort

/-- One number in a block of its own. -/
def Box (w : World) (C : Nat) (s : Nat) : Prop := Row w C 3 [.int .i64 (s : Nat)]
theorem Box.cell {w : World} {C s : Nat} (h : Box w C s) : w.cell? ⟨C, 0, none⟩ = some (.int .i64 (s : Nat)) := Row.cell h 0 (by simp)
theorem Box.fr {w : World} {C s : Nat} (h : Box w C s) : w.frozen? ⟨C, 0, none⟩ = false := Row.fr h 0
theorem Box.ext {w w' : World} {C s : Nat} (h : Box w C s) (e : Ext w w') : Box w' C s := Row.ext h e
theorem Box.set {w : World} {C s : Nat} (h : Box w C s) (t : Nat) : Box (w.setCell ⟨C, 0, none⟩ (.int .i64 (t : Nat))) C t := Row.set h 0 _

set_option maxHeartbeats 1000000 in
theorem order2_any (B c n C x y s : Nat) (d : Array Nat) (r : List Value) (w : World) (hr : UA w B d r) (hn : d.size = n) (hx : x < n) (hy : y < n) (hC : Box w C s) (hs : s ≤ 100) (hne : C ≠ B) :
    Calls Tryd.prog 50 #[.slice (some ⟨B, 0, none⟩) n c, .int .i64 x, .int .i64 y, .pointer (some ⟨C, 0, none⟩)] w
      fun e w' => ∃ u v t : Nat, e = .returned (.tuple #[.int .i64 (u : Nat), .int .i64 (v : Nat)]) ∧ Hid ((u = x ∧ v = y) ∨ (u = y ∧ v = x)) ∧ Hid (t ≤ s + 1) ∧ Hid (Box w' C t) ∧ Hid (UA w' B d r) ∧ Hid (KB C w w') := by
  have e1 := hr.cell (i := x) (by omega)
  have e2 := hr.cell (i := y) (by omega)
  have b1 : (x : Int) < (n : Int) := by omega
  have b2 : (y : Int) < (n : Int) := by omega
  have hc : Hid (∀ q, Calls Tryd.prog 40 #[.int .u32 (d[y]! : Nat), .int .u32 (d[x]! : Nat)] (w.drewN q) fun e w' => e = .returned (.bool (lt d[y]! d[x]!)) ∧ ∃ m, w' = (w.drewN q).drewN m) := fun q => less_any _ _ _
  have U : Hid (UA w B d r) := hr
  have BX : Hid (Box w C s) := hC
  have NE : Hid (C ≠ B) := hne
  clear hr hC hne hn
  generalize lt d[y]! d[x]! = t at *
  generalize d[y]! = p at *
  generalize d[x]! = q at *
  cases t
  · go_enter Tryd.func50, Tryd.ntmps50
    go_wp2
    go_quiet ((go_at_call 40; exact Calls.quiet_of (hc.out _)))
    go_wp2
    go_ret2
    exact ⟨x, y, s, rfl, Or.inl ⟨rfl, rfl⟩, by show s ≤ s + 1; omega, BX.out.ext (Qt.ext ⟨_, rfl⟩), U.out.ext (Qt.ext ⟨_, rfl⟩), KB.of_ext (Qt.ext ⟨_, rfl⟩)⟩
  · go_enter Tryd.func50, Tryd.ntmps50
    go_wp2
    go_quiet ((go_at_call 40; exact Calls.quiet_of (hc.out _)))
    have B2 : Box (w.drewN nq) C s := BX.out.ext (Qt.ext ⟨_, rfl⟩)
    have U2 : UA (w.drewN nq) B d r := U.out.ext (Qt.ext ⟨_, rfl⟩)
    have K2 : KB C w (w.drewN nq) := KB.of_ext (Qt.ext ⟨_, rfl⟩)
    clear hc e1 e2
    generalize w.drewN nq = W at *
    have c1 := B2.cell
    have f1 := B2.fr
    have B3 : Hid (Box (W.setCell ⟨C, 0, none⟩ (.int .i64 ((s + 1 : Nat) : Int))) C (s + 1)) := B2.set _
    have K3 : Hid (KB C w (W.setCell ⟨C, 0, none⟩ (.int .i64 ((s + 1 : Nat) : Int)))) := K2.setCell _
    have U3 : Hid (UA (W.setCell ⟨C, 0, none⟩ (.int .i64 ((s + 1 : Nat) : Int))) B d r) := Row.other U2 _ (fun h => NE.out h) _
    clear B2 K2 U2
    go_wp2
    go_ret2
    exact ⟨y, x, s + 1, rfl, Or.inr ⟨rfl, rfl⟩, Nat.le_refl _, B3.out, U3.out, K3.out⟩

set_option maxHeartbeats 1000000 in
theorem median_any (B c n C lo hi x y z s : Nat) (d : Array Nat) (r : List Value) (w : World) (hr : UA w B d r) (hn : d.size = n) (hh : hi ≤ n) (hx : lo ≤ x ∧ x < hi) (hy : lo ≤ y ∧ y < hi) (hz : lo ≤ z ∧ z < hi) (hC : Box w C s) (hs : s ≤ 90) (hne : C ≠ B) :
    Calls Tryd.prog 48 #[.slice (some ⟨B, 0, none⟩) n c, .int .i64 x, .int .i64 y, .int .i64 z, .pointer (some ⟨C, 0, none⟩)] w
      fun e w' => ∃ u t : Nat, e = .returned (.int .i64 (u : Nat)) ∧ Hid (lo ≤ u ∧ u < hi) ∧ Hid (t ≤ s + 3) ∧ Hid (Box w' C t) ∧ Hid (UA w' B d r) ∧ Hid (KB C w w') := by
  have OR : Hid (∀ (W : World) (x y s : Nat), UA W B d r → lo ≤ x ∧ x < hi → lo ≤ y ∧ y < hi → Box W C s → s ≤ 100 → Calls Tryd.prog 50 #[.slice (some ⟨B, 0, none⟩) n c, .int .i64 x, .int .i64 y, .pointer (some ⟨C, 0, none⟩)] W
      fun e w' => ∃ u v t : Nat, e = .returned (.tuple #[.int .i64 (u : Nat), .int .i64 (v : Nat)]) ∧ Hid ((lo ≤ u ∧ u < hi) ∧ (lo ≤ v ∧ v < hi)) ∧ Hid (t ≤ s + 1) ∧ Hid (Box w' C t) ∧ Hid (UA w' B d r) ∧ Hid (KB C W w')) := fun W x y s h1 h2 h3 h4 h5 =>
    (order2_any B c n C x y s d r W h1 hn (by omega) (by omega) h4 h5 hne).mono fun e w' ⟨u, v, t, a1, a2, a3, a4, a5, a6⟩ => ⟨u, v, t, a1, by
      rcases a2.out with ⟨rfl, rfl⟩ | ⟨rfl, rfl⟩
      · exact ⟨h2, h3⟩
      · exact ⟨h3, h2⟩, a3, a4, a5, a6⟩
  have c1 := OR.out w x y s hr hx hy hC (by omega)
  have HZ : Hid (lo ≤ z ∧ z < hi) := hz
  clear hr hn hx hy hz hC hne hh
  go_enter Tryd.func48, Tryd.ntmps48
  go_wp2_with fail
  refine c1.mono ?_
  rintro e w1 ⟨u1, v1, t1, rfl, p1, l1, x1, y1, k1⟩
  have c2 := OR.out w1 v1 z t1 y1.out p1.out.2 HZ.out x1.out (by have := l1.out; omega)
  clear c1
  go_wp2_with fail
  refine c2.mono ?_
  rintro e w2 ⟨u2, v2, t2, rfl, p2, l2, x2, y2, k2⟩
  have c3 := OR.out w2 u1 u2 t2 y2.out p1.out.1 p2.out.1 x2.out (by have := l1.out; have := l2.out; omega)
  clear c2
  go_wp2_with fail
  refine c3.mono ?_
  rintro e w3 ⟨u3, v3, t3, rfl, p3, l3, x3, y3, k3⟩
  clear c3
  go_wp2
  go_ret
  exact ⟨v3, t3, rfl, p3.out.2, by show t3 ≤ s + 3; have := l1.out; have := l2.out; have := l3.out; omega, x3.out, y3.out, (k1.out.trans k2.out).trans k3.out⟩

theorem adjacent_any (B c n C lo hi x s : Nat) (d : Array Nat) (r : List Value) (w : World) (hr : UA w B d r) (hn : d.size = n) (hn2 : n ≤ 1000) (hh : hi ≤ n) (h1 : lo < x) (h2 : x + 1 < hi) (hC : Box w C s) (hs : s ≤ 90) (hne : C ≠ B) :
    Calls Tryd.prog 47 #[.slice (some ⟨B, 0, none⟩) n c, .int .i64 x, .pointer (some ⟨C, 0, none⟩)] w
      fun e w' => ∃ u t : Nat, e = .returned (.int .i64 (u : Nat)) ∧ Hid (lo ≤ u ∧ u < hi) ∧ Hid (t ≤ s + 3) ∧ Hid (Box w' C t) ∧ Hid (UA w' B d r) ∧ Hid (KB C w w') := by
  obtain ⟨k, rfl⟩ : ∃ k, x = k + 1 := ⟨x - 1, by omega⟩
  have c1 := median_any B c n C lo hi k (k + 1) (k + 2) s d r w hr hn hh (by omega) (by omega) (by omega) hC hs hne
  have e1 : ((k + 2 : Nat) : Int) = (k : Int) + 1 + 1 := by omega
  have e2 : ((k + 1 : Nat) : Int) = (k : Int) + 1 := by omega
  rw [e1, e2] at c1
  have hk : k ≤ 1000 := by omega
  clear hr hn hh hC hne e1 e2 hs
  rw [show ((k + 1 : Nat) : Int) = (k : Int) + 1 by omega]
  go_enter Tryd.func47, Tryd.ntmps47
  go_wp2_with fail
  refine c1.mono ?_
  rintro e w1 ⟨u1, t1, rfl, p1, l1, x1, y1, k1⟩
  clear c1
  go_wp2
  go_ret
  exact ⟨u1, t1, rfl, p1, l1, x1, y1, k1⟩

end Go.Proofs.YtdfjjjcaibadoabDoor
