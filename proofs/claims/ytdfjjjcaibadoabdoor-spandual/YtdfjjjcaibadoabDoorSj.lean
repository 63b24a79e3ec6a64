/-
  span.Size: how few rows have the same sums.
-/
import Derived.Test.YtdfjjjcaibadoabDoorTz
import Derived.Test.YtdfjjjcaibadoabDoorRs
namespace Go.Proofs.YtdfjjjcaibadoabDoor
open Go.RowKit
set_option linter.unusedVariables false

theorem spanSize_bad (n : Int) (x : Um) (hb : ∀ y ∈ x.z, y < 4294967296) (h : re n x.z ≠ 0) (w : World) (hx : Us w x) :
    Calls Tryd.prog 6 #[.int .i64 n, x.v] w fun e w' => e = .returned (.tuple #[.int .i64 0, .int .i64 (re n x.z)]) ∧ Ext w w' := by
  have c1 := checkRows_any n x hb w hx
  have hz : (re n x.z != 0) = true := by rw [bne_iff_ne]; exact h
  clear h hb hx
  generalize re n x.z = R at *
  obtain ⟨a, c, g⟩ := x
  simp only [Um.v] at *
  generalize g.length = m at *
  go_enter Tryd.func6, Tryd.ntmps6
  go_wp2_with fail
  refine c1.mono ?_
  rintro e w' ⟨rfl, rfl⟩
  clear c1
  go_wp2
  go_ret2
  exact ⟨rfl, Ext.refl _⟩

theorem spanSize_good (n : Nat) (hn : n ≤ 12) (x : Um) (hl : x.z.length ≤ 8) (hb : ∀ y ∈ x.z, y < 2 ^ n) (k : Nat) (hk : k ≤ 12) (hlen : (spn n x.z).length = 2 ^ k) (w : World) (hx : Us w x) (hT : TB w) :
    Calls Tryd.prog 6 #[.int .i64 n, x.v] w fun e w' => e = .returned (.tuple #[.int .i64 k, .int .i64 0]) ∧ Ext w w' := by
  have c1 := checkRows_any n x (rows_32 hn hb) w hx
  rw [re_good hn hl hb] at c1
  have c2 := sums_any x hl (rows_32 hn hb) w hx
  have c3 : Hid (∀ W, Ext w W → Calls Tryd.prog 16 #[.int .u64 (2 ^ k : Nat)] W fun e w' => e = .returned (.int .i64 k) ∧ w' = W) := fun W E => tz_any k hk W (hT.ext E)
  have EQ : Hid (∀ ys : List Nat, ys.Pairwise (· < ·) → (∀ y, y ∈ ys ↔ inb x.z y = true) → ys.length = 2 ^ k) := fun ys h1 h2 => by
    rw [← hlen, rise_eq h1 (spn_rise n x.z) (fun y => (h2 y).trans (spn_mem hb).symm)]
  have p1 : 2 ^ k ≤ 2 ^ 12 := Nat.pow_le_pow_right (by omega) hk
  clear hb hx hlen hT
  unfold SO at c2
  generalize 2 ^ k = X at *
  obtain ⟨a, c, g⟩ := x
  simp only [Um.v] at *
  generalize g.length = m at *
  go_enter Tryd.func6, Tryd.ntmps6
  go_wp2_with fail
  refine c1.mono ?_
  rintro e w' ⟨rfl, rfl⟩
  clear c1
  go_wp2_with fail
  refine c2.mono ?_
  intro e w2 h2
  obtain ⟨v, ys, rfl, O, q1, q2⟩ := h2.out
  have E := EQ.out ys q1 q2
  have X2 : Hid (Ext w' w2) := O.1
  obtain ⟨Y, rfl, ez, _⟩ := O.us
  obtain ⟨aY, cY, gY⟩ := Y
  have hY : gY.length = X := by rw [← E, ← ez]
  simp only [Um.v] at *
  rw [hY]
  have c3' := c3.out w2 X2.out
  clear c2 c3 h2 O q1 q2 E ez hY EQ
  go_wp2_with fail
  refine c3'.mono ?_
  rintro e w3 ⟨rfl, rfl⟩
  clear c3'
  go_wp2
  go_ret2
  exact ⟨rfl, X2.out⟩

end Go.Proofs.YtdfjjjcaibadoabDoor
