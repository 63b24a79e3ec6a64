/-
  What prefix.Read answers of a code and bits.
-/
import Derived.Test.YtfelbgilhhmbnaaRead1
import Derived.RegionTactic
import Derived.ChangeAlike
namespace Go.Proofs.Ytfelbgilhhmbnaa
open Go.RowKit

theorem info3 : (Try.prog.info? 3).map (fun i => (i.zero, i.size, i.bytes)) = some (some (.int .i64 0), 1, 8) := by kernel_rfl

/-- Does the word begin the bits? -/
def pre (r : List Bool) (x : Wd) : Bool := x.l.isPrefixOf r

/-- Reading on: so many rounds at most, the bits that are left, the symbols so far. -/
def rd (g : List Wd) : Nat → List Bool → List Int → Option (List Int)
  | 0, _, _ => none
  | f + 1, r, z =>
    if r.length = 0 then some z
    else if firstOf (pre r) g < 0 ∨ z.length = 64 then none
    else rd g f (r.drop (g.getD (firstOf (pre r) g).toNat ⟨none, 0, []⟩).l.length) (z ++ [firstOf (pre r) g])

theorem rd_end (g : List Wd) (f : Nat) (r : List Bool) (z : List Int) (h : r.length = 0) : rd g (f + 1) r z = some z := by
  simp [rd, h]
theorem rd_none (g : List Wd) (f : Nat) (r : List Bool) (z : List Int) (h : r.length ≠ 0) (h' : firstOf (pre r) g < 0 ∨ z.length = 64) : rd g (f + 1) r z = none := by
  simp only [rd]
  rw [if_neg h, if_pos h']
theorem rd_step (g : List Wd) (f q : Nat) (r : List Bool) (z : List Int) (h : r.length ≠ 0) (hq : firstOf (pre r) g = q) (hg : q < g.length) (h' : z.length ≠ 64) : rd g (f + 1) r z = rd g f (r.drop g[q].l.length) (z ++ [(q : Int)]) := by
  simp only [rd]
  rw [if_neg h, if_neg (by rw [hq]; omega), hq]
  simp [List.getD_eq_getElem?_getD, hg]

/-- What lies in memory while bits are read: the box of the rest, and the symbols so far. -/
structure RdM (M : Nat) (W0 w : World) (v : Value) (r : Wd) (z : List Int) : Prop where
  low : Below M W0 w
  sz : M + 1 ≤ w.heap.size
  box : w.cell? ⟨M, 0, none⟩ = some r.v
  fr : w.frozen? ⟨M, 0, none⟩ = false
  own : w.ownsRow (M + 1) 3 1 v z.length (z.map (Value.int .i64))

theorem ownsRow_ext {w w' : World} {base : Nat} {e : TypeId} {v : Value} {n : Nat} {xs : List Value} (h : w.ownsRow base e 1 v n xs) (e1 : Ext w w') : w'.ownsRow base e 1 v n xs := by
  obtain ⟨h1, h2⟩ := h
  refine ⟨h1, ?_⟩
  rcases h2 with h2 | ⟨g, cap, cur, hv, hg, hh, r⟩
  · exact Or.inl h2
  · refine Or.inr ⟨g, cap, cur, hv, hg, ?_, r⟩
    rw [e1.block g ?_]
    · exact hh
    · rcases Nat.lt_or_ge g w.heap.size with h | h
      · exact h
      · rw [Array.getElem?_eq_none h] at hh; cases hh

theorem RdM.ext {M : Nat} {W0 w w' : World} {v : Value} {r : Wd} {z : List Int} (h : RdM M W0 w v r z) (e : Ext w w') : RdM M W0 w' v r z :=
  ⟨h.low.trans (e.mono (by have := h.sz; omega)), Nat.le_trans h.sz e.size, e.cell h.box, by rw [Below.frozen e (by exact h.sz)]; exact h.fr, ownsRow_ext h.own e⟩

theorem RdM.form {M : Nat} {W0 w : World} {v : Value} {r : Wd} {z : List Int} (h : RdM M W0 w v r z) : ∃ a c, v = .slice a z.length c := by
  obtain ⟨_, h2⟩ := h.own
  rcases h2 with ⟨rfl, h0⟩ | ⟨g, cap, cur, rfl, _⟩
  · exact ⟨none, 0, by rw [h0]⟩
  · exact ⟨_, _, rfl⟩

theorem RdM.store {M : Nat} {W0 w : World} {v : Value} {r : Wd} {z : List Int} (h : RdM M W0 w v r z) (r' : Wd) : RdM M W0 (w.setCell ⟨M, 0, none⟩ r'.v) v r' z := by
  refine ⟨h.low.setCell (Nat.le_refl _) _, by have := h.sz; simpa [World.setCell] using this, World.cell?_setCell_same _ _ _ h.box, by rw [World.frozen?_setCell]; exact h.fr, ?_⟩
  exact ownsRow_setCell_below h.own (by show M < M + 1; omega) _

theorem RdM.drew {M : Nat} {W0 w : World} {v : Value} {r : Wd} {z : List Int} (h : RdM M W0 w v r z) : RdM M W0 w.drew v r z :=
  h.ext (Below.drew (Ext.refl w))

theorem RdM.app {M : Nat} {W0 w w' : World} {v v' : Value} {r : Wd} {z : List Int} {q : Int} (h : RdM M W0 w v r z) (hown : w'.ownsRow (M + 1) 3 1 v' (z.length + 1) (z.map (Value.int .i64) ++ [.int .i64 q]))
    (hg : (w.alloc (.cells #[.int .i64 q] 3)).grownBy w' v.ownBlock) : RdM M W0 w' v' r (z ++ [q]) := by
  have h1 := h.ext ((Ext.refl w).alloc (.cells #[.int .i64 q] 3))
  have hb : Below (M + 1) (w.alloc (.cells #[.int .i64 q] 3)) w' := (Below.refl _ _).grown hg h1.sz (fun k hk => (h.own.lt k hk).1)
  exact ⟨h1.low.trans (hb.mono (by omega)), Nat.le_trans h1.sz hb.size, by rw [hb.cell (p := ⟨M, 0, none⟩) (by show M < M + 1; omega)]; exact h1.box,
    by rw [hb.frozen (p := ⟨M, 0, none⟩) (by show M < M + 1; omega)]; exact h1.fr, by simpa using hown⟩

theorem RdM.nums {M : Nat} {W0 w : World} {v : Value} {r : Wd} {z : List Int} (h : RdM M W0 w v r z) : ∃ x : Nm, v = x.v ∧ x.z = z ∧ Nums w x := by
  have hown := h.own
  obtain ⟨h1, h2⟩ := h.own
  rcases h2 with ⟨rfl, h0⟩ | ⟨g, cap, cur, rfl, hg, hh, hle, hm, hs, ht⟩
  · have : z = [] := List.eq_nil_of_length_eq_zero h0
    subst this
    exact ⟨⟨none, 0, []⟩, rfl, rfl, by simp, by simp, by simp, 0, 0, by simp, by simp⟩
  · refine ⟨⟨some ⟨g, 0, none⟩, cap, z⟩, rfl, rfl, hle, hm, by simp, g, 0, fun _ => rfl, fun i hi => ?_⟩
    have := hown.cellAt i (by simpa using hi)
    have hi' : i < z.length := hi
    simpa [List.getD_eq_getElem?_getD, hi'] using this

/-- What is left of bits behind a word, as Go's slices have it. -/
def restOf (r : Wd) (k : Nat) : Wd := ⟨if r.c = k then r.a else r.a.map (fun a => ⟨a.block, a.off + k, none⟩), r.c - k, r.l.drop k⟩

theorem Bits.drop {w : World} {r : Wd} (h : Bits w r) (k : Nat) (hk : k ≤ r.l.length) : Bits w (restOf r k) := by
  obtain ⟨h1, h2, h0, b, o, h3, h4⟩ := h
  refine ⟨by simp [restOf]; omega, by simp [restOf]; omega, ?_, b, o + k, ?_, fun i hi => ?_⟩
  · intro hn
    simp only [restOf] at hn ⊢
    split at hn
    · omega
    · have : r.a = none := by simpa using hn
      have := h0 this
      omega
  · intro hl
    simp only [restOf, List.length_drop] at hl ⊢
    rw [if_neg (by omega), h3 (by omega)]
    rfl
  · simp only [restOf, List.length_drop] at hi
    have := h4 (k + i) (by omega)
    simpa [restOf, List.getD_eq_getElem?_getD, List.getElem?_drop, Nat.add_assoc] using this

set_option maxHeartbeats 1000000 in
theorem read_bad (a : Option Addr) (c : Nat) (g : List Wd) (y : Wd) (w : World) (hg : Wds w a c g) (hc : crd g ≠ 0) :
    Calls Try.prog 13 #[.slice a g.length c, y.v] w fun e w' => e = .returned (.tuple #[.slice none 0 0, .int .i64 (crd g)]) ∧ Ext w w' := by
  have h28 := checkReadable_any a c g w hg
  clear hg
  have hne : (crd g != 0) = true := by simpa using hc
  clear hc
  generalize crd g = r at *
  generalize g.length = n at *
  simp only [Wd.v]
  go_enter Try.func13, Try.ntmps13
  go_wp2_with (go_at_call 28; refine h28.mono ?_; rintro e w' ⟨rfl, hb⟩)
  go_ret2
  exact ⟨rfl, hb⟩

end Go.Proofs.Ytfelbgilhhmbnaa
