/-
  Words of bits and codes as they lie in memory, and that what is laid later leaves them as they are. Nothing here speaks of the program.
-/
import Derived.WalkKit
import Derived.WalkSpells
import Derived.WalkLawsBesides
import Derived.Deep.LoopGhost
import Derived.Deep.QuietTactic
import Derived.BigQuiet
namespace Go.Proofs.Ytibedfdgkknoiaa
open Go.RowKit

/-- All that lay in w lies in w' as it lay. -/
abbrev Ext (w w' : World) : Prop := Below w.heap.size w w'

theorem Ext.refl (w : World) : Ext w w := Below.refl _ w
theorem Ext.trans {a b c : World} (h : Ext a b) (k : Ext b c) : Ext a c := Below.trans h (k.mono h.size)
theorem Ext.cell {w w' : World} (h : Ext w w') {p : Addr} {v : Value} (hc : w.cell? p = some v) : w'.cell? p = some v :=
  (Below.cell h (World.block_lt_of_cell? _ _ hc)).trans hc
theorem Ext.drewN {a w : World} (h : Ext a w) (n : Nat) : Ext a (w.drewN n) := below_drewN h n
theorem Ext.alloc {a w : World} (h : Ext a w) (o : Obj) : Ext a (w.alloc o) := Below.alloc h h.size o

/-- Nothing but draws has come between. -/
def Qt (w w' : World) : Prop := ∃ n, w' = w.drewN n
theorem Qt.refl (w : World) : Qt w w := ⟨0, rfl⟩
theorem Qt.drewN {a w : World} (h : Qt a w) (n : Nat) : Qt a (w.drewN n) := by
  obtain ⟨m, rfl⟩ := h
  exact ⟨m + n, by rw [World.drewN_drewN]⟩
theorem Qt.trans {a b c : World} (h : Qt a b) (k : Qt b c) : Qt a c := by
  obtain ⟨m, rfl⟩ := k
  exact h.drewN m
theorem Qt.ext {w w' : World} (h : Qt w w') : Ext w w' := by
  obtain ⟨m, rfl⟩ := h
  exact (Ext.refl w).drewN m
theorem Qt.cell {w w' : World} (h : Qt w w') {p : Addr} {v : Value} (hc : w.cell? p = some v) : w'.cell? p = some v := h.ext.cell hc

theorem ret_int {k : IntKind} {a b : Int} (h : a = b) : Ending.returned (.int k a) = .returned (.int k b) := by rw [h]
theorem ret_bool {a b : Bool} (h : a = b) : Ending.returned (.bool a) = .returned (.bool b) := by rw [h]

/-- A word of bits as it lies in memory: where, its room, its bits. -/
structure Wd where
  a : Option Addr
  c : Nat
  l : List Bool

abbrev Wd.v (x : Wd) : Value := .slice x.a x.l.length x.c

def Bits (w : World) (x : Wd) : Prop :=
  x.l.length ≤ x.c ∧ x.c ≤ maxLen ∧ (x.a = none → x.c = 0) ∧
    ∃ b o, (0 < x.l.length → x.a = some ⟨b, o, none⟩) ∧ ∀ i, i < x.l.length → w.cell? ⟨b, o + i, none⟩ = some (.bool (x.l.getD i false))

/-- The words of a code, one behind the other in memory. -/
def Wds (w : World) (a : Option Addr) (c : Nat) (g : List Wd) : Prop :=
  g.length ≤ c ∧ c ≤ maxLen ∧ (∀ x ∈ g, Bits w x) ∧
    ∃ b o, (0 < g.length → a = some ⟨b, o, none⟩) ∧ ∀ i (h : i < g.length), w.cell? ⟨b, o + i, none⟩ = some (g[i].v)

theorem Bits.ext {w w' : World} {x : Wd} (h : Bits w x) (e : Ext w w') : Bits w' x := by
  obtain ⟨h1, h2, h0, b, o, h3, h4⟩ := h
  exact ⟨h1, h2, h0, b, o, h3, fun i hi => e.cell (h4 i hi)⟩

/-- Numbers one behind the other in memory. -/
structure Nm where
  a : Option Addr
  c : Nat
  z : List Int

abbrev Nm.v (x : Nm) : Value := .slice x.a x.z.length x.c

def Nums (w : World) (x : Nm) : Prop :=
  x.z.length ≤ x.c ∧ x.c ≤ maxLen ∧ (x.a = none → x.c = 0) ∧
    ∃ b o, (0 < x.z.length → x.a = some ⟨b, o, none⟩) ∧ ∀ i, i < x.z.length → w.cell? ⟨b, o + i, none⟩ = some (.int .i64 (x.z.getD i 0))

theorem Nums.ext {w w' : World} {x : Nm} (h : Nums w x) (e : Ext w w') : Nums w' x := by
  obtain ⟨h1, h2, h0, b, o, h3, h4⟩ := h
  exact ⟨h1, h2, h0, b, o, h3, fun i hi => e.cell (h4 i hi)⟩

theorem Wds.ext {w w' : World} {a : Option Addr} {c : Nat} {g : List Wd} (h : Wds w a c g) (e : Ext w w') : Wds w' a c g := by
  obtain ⟨h1, h2, h3, b, o, h4, h5⟩ := h
  exact ⟨h1, h2, fun x hx => (h3 x hx).ext e, b, o, h4, fun i hi => e.cell (h5 i hi)⟩

end Go.Proofs.Ytibedfdgkknoiaa
