/-
  span.Put and its closure.
-/
import Derived.Test.YtdfjjjcaibadoabFc
import Derived.Test.YtdfjjjcaibadoabOb
namespace Go.Proofs.Ytdfjjjcaibadoab
open Go.RowKit

/-- The closure of span.Put: whether the data are set at a place. -/
theorem isset_any (y : Bm) (k : Nat) (hk : k < y.l.length) (p : Addr) (w : World) (hy : Bs w y) (h : w.cell? p = some y.v) :
    Calls Try.prog 31 #[.int .i64 (k : Nat), .pointer (some p)] w fun e w' => e = .returned (.bool (y.l.getD k false)) ∧ Ext w w' := by
  obtain ⟨a, c, l⟩ := y
  obtain ⟨h1, h2, _, b, o, h4, h5⟩ := hy
  simp only at hk h1 h2 h4 h5
  simp only [Bm.v] at h ⊢
  obtain rfl := h4 (by omega)
  have e1 := h5 k hk
  have kz : (k : Int) < (l.length : Int) := by omega
  clear h4 h5
  generalize l.getD k false = t at *
  generalize l.length = m at *
  go_enter Try.func31, Try.ntmps31
  go_wp2
  go_ret
  exact ⟨rfl, Ext.refl w⟩

theorem put_bad (n : Int) (x : Um) (hb : ∀ y ∈ x.z, y < 4294967296) (y : Bm) (h : re n x.z ≠ 0) (w : World) (hx : Us w x) :
    Calls Try.prog 13 #[.int .i64 n, x.v, y.v] w fun e w' => e = .returned (.tuple #[.int .u32 0, .int .i64 (re n x.z)]) ∧ Ext w w' := by
  have E : Hid (Ext w (w.alloc (.cells #[y.v] 33))) := (Ext.refl w).alloc _
  have c1 := checkRows_any n x hb (w.alloc (.cells #[y.v] 33)) (hx.ext E.out)
  have hz : (re n x.z != 0) = true := by rw [bne_iff_ne]; exact h
  clear h hb hx
  generalize re n x.z = R at *
  obtain ⟨a, c, g⟩ := x
  obtain ⟨ay, cy, l⟩ := y
  simp only [Um.v, Bm.v] at *
  generalize g.length = m at *
  generalize l.length = ml at *
  go_enter Try.func13, Try.ntmps13
  go_wp2_with fail
  refine c1.mono ?_
  rintro e w' ⟨rfl, rfl⟩
  clear c1
  go_wp2
  go_ret2
  exact ⟨rfl, E.out⟩

theorem put_form (n : Nat) (hn : n ≤ 12) (x : Um) (hl : x.z.length ≤ 8) (hb : ∀ y ∈ x.z, y < 2 ^ n) (y : Bm) (hy : y.l.length ≤ maxLen) (h : y.l.length ≠ x.z.length) (w : World) (hx : Us w x) :
    Calls Try.prog 13 #[.int .i64 n, x.v, y.v] w fun e w' => e = .returned (.tuple #[.int .u32 0, .int .i64 3]) ∧ Ext w w' := by
  have E : Hid (Ext w (w.alloc (.cells #[y.v] 33))) := (Ext.refl w).alloc _
  have c1 := checkRows_any n x (rows_low hn hb) (w.alloc (.cells #[y.v] 33)) (hx.ext E.out)
  rw [re_good hn hl hb] at c1
  have ld := new_cell w y.v 33
  unfold maxLen at hy
  clear hb hx
  obtain ⟨a, c, g⟩ := x
  obtain ⟨ay, cy, l⟩ := y
  simp only [Um.v, Bm.v] at *
  generalize g.length = m at *
  generalize l.length = ml at *
  have hz : ((ml : Int) != (m : Int)) = true := by rw [bne_iff_ne]; omega
  go_enter Try.func13, Try.ntmps13
  go_wp2_with fail
  refine c1.mono ?_
  rintro e w' ⟨rfl, rfl⟩
  clear c1
  go_wp2
  go_ret2
  exact ⟨rfl, E.out⟩

theorem put_good (n : Nat) (hn : n ≤ 12) (x : Um) (hl : x.z.length ≤ 8) (hb : ∀ y ∈ x.z, y < 2 ^ n) (y : Bm) (h : y.l.length = x.z.length) (w : World) (hx : Us w x) (hy : Bs w y) :
    Calls Try.prog 13 #[.int .i64 n, x.v, y.v] w fun e w' => e = .returned (.tuple #[.int .u32 (sP x.z (fun k => y.l.getD k false) x.z.length : Nat), .int .i64 0]) ∧ Ext w w' := by
  have E : Hid (Ext w (w.alloc (.cells #[y.v] 33))) := (Ext.refl w).alloc _
  have c1 := checkRows_any n x (rows_low hn hb) (w.alloc (.cells #[y.v] 33)) (hx.ext E.out)
  rw [re_good hn hl hb] at c1
  have ld := new_cell w y.v 33
  have eg : ∀ args w, (callFunc 31 args).run Try.prog w = .ok (.enter 31 args) w := fun args w => by rfl
  have c2 := sumOf_any x 31 #[.pointer (some ⟨w.heap.size, 0, none⟩)] (fun k => y.l.getD k false) (by omega) (rows_low hn hb) (w.alloc (.cells #[y.v] 33)) eg (hx.ext E.out) (fun W k hk E2 =>
    isset_any y k (by omega) ⟨w.heap.size, 0, none⟩ W (hy.ext (E.out.trans E2)) (E2.cell ld))
  clear hb hx hy eg
  generalize sP x.z (fun k => y.l.getD k false) x.z.length = R at *
  obtain ⟨a, c, g⟩ := x
  obtain ⟨ay, cy, l⟩ := y
  simp only [Um.v, Bm.v] at *
  generalize l.length = ml at *
  generalize g.length = m at *
  subst h
  have hz : ((ml : Int) != (ml : Int)) = false := by simp
  generalize hW : w.alloc (.cells #[.slice ay ml cy] 33) = W at *
  go_enter Try.func13, Try.ntmps13
  go_wp2_with fail
  refine c1.mono ?_
  rintro e w' ⟨rfl, rfl⟩
  clear c1
  go_wp2_with fail
  refine c2.mono ?_
  rintro e w2 ⟨rfl, E2⟩
  clear c2
  go_wp2
  go_ret2
  exact ⟨rfl, E.out.trans E2⟩

end Go.Proofs.Ytdfjjjcaibadoab
