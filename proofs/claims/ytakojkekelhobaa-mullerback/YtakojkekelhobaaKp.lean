/-
  What is put for data, as the keepers ask it; how far two such are apart.
-/
import Derived.Test.YtakojkekelhobaaFr
import Derived.Test.YtakojkekelhobaaDf
import Derived.Test.YtakojkekelhobaaEq
namespace Go.Proofs.Ytakojkekelhobaa
open Go.RowKit
set_option linter.unusedVariables false

/-- What is put. -/
def pb (m r : Nat) (l : List Bool) : List Bool := bl (cw (pl m (r + 1)) (fun i => l.getD i false)) (2 ^ m)
theorem pb_len (m r : Nat) (l : List Bool) : (pb m r l).length = 2 ^ m := bl_len _ _
theorem pb_far {m r : Nat} (hm : m ≤ 4) (hr : r ≤ m) {a b : List Bool} (ha : a.length = (pl m (r + 1)).length) (hb : b.length = (pl m (r + 1)).length) (h : a ≠ b) : 2 ^ (m - r) ≤ df (pb m r a) (pb m r b) := by
  have hne : ∃ i, i < (pl m (r + 1)).length ∧ a.getD i false ≠ b.getD i false := Classical.byContradiction (fun hn => h ((getD_eq_iff a b (by rw [ha, hb])).2 (fun i hi => Classical.byContradiction (fun hh => hn ⟨i, by rw [← ha]; exact hi, hh⟩))))
  have k := apart hm hr (D := fun i => a.getD i false) (E := fun i => b.getD i false) hne
  have e : df (pb m r a) (pb m r b) = ct (fun x => cw (pl m (r + 1)) (fun i => a.getD i false) x != cw (pl m (r + 1)) (fun i => b.getD i false) x) (2 ^ m) := by
    unfold df
    rw [pb_len]
    exact ct_congr _ (fun i hi => by unfold pb; rw [bl_at _ hi, bl_at _ hi])
  rw [e]
  exact k

theorem put_is {m r : Nat} (hm : m ≤ 4) (hr : r ≤ m) (x : Wd) (hl : x.l.length = (pl m (r + 1)).length) (w : World) (hx : Bits w x) :
    Calls Try.prog 11 #[.int .i64 r, .int .i64 m, .slice x.a (pl m (r + 1)).length x.c] w fun e w' => ∃ (a : Option Addr) (c : Nat), e = .returned (.tuple #[.slice a (2 ^ m : Nat) c, .int .i64 0]) ∧ Bits w' ⟨a, c, pb m r x.l⟩ ∧ Ext w w' := by
  have c := Put_good hm hr x hl w hx
  rw [Wd.v, hl] at c
  refine c.mono ?_
  rintro e w' ⟨⟨a, c, l⟩, rfl, hd, hb, hE⟩
  simp only at hd
  subst hd
  exact ⟨a, c, by simp only [Wd.v, bl_len], hb, hE⟩
theorem bools_is (a : Option Addr) (c : Nat) (l : List Bool) (a' : Option Addr) (c' : Nat) (l' : List Bool) (k k' : Nat) (hk : l.length = k) (hk' : l'.length = k') (w : World) (h : Bits w ⟨a, c, l⟩) (h' : Bits w ⟨a', c', l'⟩) :
    Calls Try.prog 12 #[.slice a k c, .slice a' k' c'] w fun e w' => e = .returned (.bool (l == l')) ∧ Qt w w' := by
  subst hk hk'
  exact bools_any ⟨a, c, l⟩ ⟨a', c', l'⟩ w h h'
theorem differ_is (a : Option Addr) (c : Nat) (l : List Bool) (a' : Option Addr) (c' : Nat) (l' : List Bool) (k : Nat) (h16 : k ≤ 16) (hk : l.length = k) (hk' : l'.length = k) (w : World) (h : Bits w ⟨a, c, l⟩) (h' : Bits w ⟨a', c', l'⟩) :
    Calls Try.prog 16 #[.slice a k c, .slice a' k c'] w fun e w' => e = .returned (.int .i64 (df l l' : Nat)) ∧ Qt w w' := by
  subst hk
  have := differ_any ⟨a, c, l⟩ ⟨a', c', l'⟩ hk' h16 w h h'
  simp only [Wd.v, hk'] at this
  exact this

end Go.Proofs.Ytakojkekelhobaa
