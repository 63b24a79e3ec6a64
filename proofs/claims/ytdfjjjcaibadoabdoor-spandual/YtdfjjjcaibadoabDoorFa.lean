/-
  span.Span, span.Put.
-/
import Derived.Test.YtdfjjjcaibadoabDoorSs
namespace Go.Proofs.YtdfjjjcaibadoabDoor
open Go.RowKit

theorem rows_32 {n : Nat} (hn : n ≤ 12) {g : List Nat} (h : ∀ y ∈ g, y < 2 ^ n) : ∀ y ∈ g, y < 4294967296 := fun y hy => by
  have := h y hy
  have hM : 2 ^ n ≤ 2 ^ 12 := Nat.pow_le_pow_right (by omega) hn
  omega

theorem span_bad (n : Int) (x : Um) (hb : ∀ y ∈ x.z, y < 4294967296) (h : re n x.z ≠ 0) (w : World) (hx : Us w x) :
    Calls Tryd.prog 4 #[.int .i64 n, x.v] w fun e w' => e = .returned (.tuple #[.slice none 0 0, .int .i64 (re n x.z)]) ∧ Ext w w' := by
  have c1 := checkRows_any n x hb w hx
  have hz : (re n x.z != 0) = true := by rw [bne_iff_ne]; exact h
  clear h hb hx
  generalize re n x.z = R at *
  obtain ⟨a, c, g⟩ := x
  simp only [Um.v] at *
  generalize g.length = m at *
  go_enter Tryd.func4, Tryd.ntmps4
  go_wp2_with fail
  refine c1.mono ?_
  rintro e w' ⟨rfl, rfl⟩
  clear c1
  go_wp2
  go_ret2
  exact ⟨rfl, Ext.refl _⟩

theorem span_good (n : Nat) (hn : n ≤ 12) (x : Um) (hl : x.z.length ≤ 8) (hb : ∀ y ∈ x.z, y < 2 ^ n) (w : World) (hx : Us w x) :
    Calls Tryd.prog 4 #[.int .i64 n, x.v] w fun e w' => Hid (∃ v, e = .returned (.tuple #[v, .int .i64 0]) ∧ OwnU w w' v (spn n x.z)) := by
  have c1 := checkRows_any n x (rows_32 hn hb) w hx
  rw [re_good hn hl hb] at c1
  have c2 := sums_any x hl (rows_32 hn hb) w hx
  have EQ : Hid (∀ ys : List Nat, ys.Pairwise (· < ·) → (∀ y, y ∈ ys ↔ inb x.z y = true) → ys = spn n x.z) := fun ys h1 h2 => rise_eq h1 (spn_rise n x.z) (fun y => (h2 y).trans (spn_mem hb).symm)
  clear hb hx
  unfold SO at c2
  obtain ⟨a, c, g⟩ := x
  simp only [Um.v] at *
  generalize g.length = m at *
  go_enter Tryd.func4, Tryd.ntmps4
  go_wp2_with fail
  refine c1.mono ?_
  rintro e w' ⟨rfl, rfl⟩
  clear c1
  go_wp2_with fail
  refine c2.mono ?_
  intro e w2 h2
  obtain ⟨v, ys, rfl, O, p1, p2⟩ := h2.out
  have E := EQ.out ys p1 p2
  have OO : Hid (OwnU w' w2 v (spn n g)) := by show OwnU _ _ _ _; rw [← E]; exact O
  clear c2 h2 O p1 p2 E
  go_wp2
  go_ret2
  exact ⟨v, rfl, OO.out⟩

end Go.Proofs.YtdfjjjcaibadoabDoor
