/-
  phrase.Join: the text of phrases, or what is wrong with them.
-/
import Derived.Test.YtjgheojfdkfmkaaTxt
import Derived.Test.YtjgheojfdkfmkaaEach
namespace Go.Proofs.Ytjgheojfdkfmkaa
open Go.RowKit

open Classical in
/-- What is wrong with phrases: 1: too many, or too long a text; 2: one that is not ahead; 0: nothing. -/
noncomputable def jer (g : List (Int × Int)) : Int := if 64 < g.length then 1 else if Vd g then (if 64 < (joined g).length then 1 else 0) else 2

/-- The text that is told. -/
noncomputable def jtx (g : List (Int × Int)) : List Int := if jer g = 0 then joined g else []

theorem jer_many {g : List (Int × Int)} (h : 64 < g.length) : jer g = 1 ∧ jtx g = [] := by
  have : jer g = 1 := if_pos h
  exact ⟨this, by unfold jtx; rw [this]; rfl⟩
theorem jer_wrong {g : List (Int × Int)} (h : ¬ 64 < g.length) (h' : ¬ Vd g) : jer g = 2 ∧ jtx g = [] := by
  have : jer g = 2 := by unfold jer; rw [if_neg h, if_neg h']
  exact ⟨this, by unfold jtx; rw [this]; rfl⟩
theorem jer_long {g : List (Int × Int)} (h : ¬ 64 < g.length) (h' : Vd g) (hl : 64 < (joined g).length) : jer g = 1 ∧ jtx g = [] := by
  have : jer g = 1 := by unfold jer; rw [if_neg h, if_pos h', if_pos hl]
  exact ⟨this, by unfold jtx; rw [this]; rfl⟩
theorem jer_good {g : List (Int × Int)} (h : ¬ 64 < g.length) (h' : Vd g) (hl : ¬ 64 < (joined g).length) : jer g = 0 ∧ jtx g = joined g := by
  have : jer g = 0 := by unfold jer; rw [if_neg h, if_pos h', if_neg hl]
  exact ⟨this, by unfold jtx; rw [this]; rfl⟩

set_option maxHeartbeats 2000000 in
theorem join_any (x : Pm) (w : World) (hx : Phs w x) :
    Calls Try.prog 10 #[x.v] w fun e w' => Ext w w' ∧ ∃ y : Wd, Bits w' y ∧ y.l = jtx x.g ∧ e = .returned (.tuple #[y.v, .int .i64 (jer x.g)]) := by
  have h1 := hx.1
  have h2 := hx.2.1
  unfold maxLen at h2
  by_cases hm : 64 < x.g.length
  · obtain ⟨j1, j2⟩ := jer_many hm
    rw [j1, j2]
    obtain ⟨a, c, g⟩ := x
    simp only [Pm.v] at *
    clear hx j1 j2
    generalize g.length = n at *
    have hn : (n : Int) > 64 := by omega
    go_enter Try.func10, Try.ntmps10
    go_wp2
    go_ret2
    exact ⟨Ext.refl _, ⟨none, 0, []⟩, bits_none _, rfl, rfl⟩
  · have he := each_any x w hx
    by_cases hv : Vd x.g
    · replace he : Calls Try.prog 14 #[x.v] w fun e w' => e = .returned (.bool true) ∧ Ext w w' := he.mono fun e w' ⟨h5, h7⟩ => ⟨h5.elim (fun h => h.2) (fun h => absurd hv h.1), h7⟩
      have HT : Hid (∀ W, Ext w W → Calls Try.prog 16 #[x.v] W fun e w' => ∃ v X, e = .returned v ∧ LW W w' v X ∧ X.map (·.l) = tx x.g) := fun W hW => texts_any x W (hx.ext hW) hv (by omega)
      have HJL : Hid ((joined x.g).length ≤ 4160) := joined_short (by omega)
      have HJ1 : Hid (64 < (joined x.g).length → jer x.g = 1 ∧ jtx x.g = []) := jer_long hm hv
      have HJ2 : Hid (¬ 64 < (joined x.g).length → jer x.g = 0 ∧ jtx x.g = joined x.g) := jer_good hm hv
      obtain ⟨a, c, g⟩ := x
      simp only [Pm.v] at *
      clear hx hv
      generalize g.length = n at *
      have hn : ¬ ((n : Int) > 64) := by omega
      go_enter Try.func10, Try.ntmps10
      go_wp2_with fail
      refine he.mono ?_
      rintro e w1 ⟨rfl, hw1⟩
      have ht := HT.out w1 hw1
      have E1 : Hid (Ext w w1) := hw1
      clear he hw1 HT
      go_wp2_with fail
      refine ht.mono ?_
      rintro e w2 ⟨v, X, rfl, hX, hXT⟩
      obtain ⟨ka, kc, hv, -⟩ := hX.w.form
      subst hv
      have hcat : cat X = joined g := cat_map hXT
      have hc := concat_any ka kc X w2 (hX.w.wds (Ext.refl _)) (by rw [hcat]; have := HJL.out; omega)
      rw [hcat] at hc
      have E2 : Hid (Ext w w2) := E1.out.trans hX.ext
      clear ht hX hXT hcat E1
      generalize X.length = km at *
      go_wp2_with fail
      refine hc.mono ?_
      rintro e w3 ⟨v, rfl, hv⟩
      obtain ⟨y, rfl, hyl, hyb⟩ := hv.bits
      have E3 : Hid (Ext w w3) := E2.out.trans hv.1
      have HY : Hid (Bits w3 y ∧ y.l = joined g) := ⟨hyb, hyl⟩
      have hyn : y.l.length = (joined g).length := by rw [hyl]
      have hq : (joined g).length ≤ 4160 := HJL.out
      clear hc hv E2 hyl hyb HJL
      obtain ⟨ya, yc, yl⟩ := y
      simp only [Wd.v] at *
      rw [hyn]
      by_cases hl : 64 < (joined g).length
      · have J1 : Hid (jer g = 1 ∧ jtx g = []) := HJ1.out hl
        clear HJ1 HJ2 HY hyn
        generalize (joined g).length = q at *
        have hlz : (q : Int) > 64 := by omega
        go_wp2
        go_ret2
        obtain ⟨j1, j2⟩ := J1.out
        rw [j1, j2]
        exact ⟨E3.out, ⟨none, 0, []⟩, bits_none _, rfl, rfl⟩
      · have J2 : Hid (jer g = 0 ∧ jtx g = joined g) := HJ2.out hl
        have HZ : Hid (∃ z : Wd, Bits w3 z ∧ z.l = joined g ∧ Value.slice ya (joined g).length yc = z.v) := ⟨⟨ya, yc, yl⟩, HY.out.1, HY.out.2, by simp only [Wd.v]; rw [hyn]⟩
        clear HJ1 HJ2 HY hyn
        generalize joined g = J at *
        generalize J.length = q at *
        have hlz : ¬ ((q : Int) > 64) := by omega
        go_wp2
        go_ret2
        obtain ⟨z, z1, z2, z3⟩ := HZ.out
        obtain ⟨j1, j2⟩ := J2.out
        rw [j1, j2]
        exact ⟨E3.out, z, z1, z2, by rw [← z3]; rfl⟩
    · replace he : Calls Try.prog 14 #[x.v] w fun e w' => e = .returned (.bool false) ∧ Ext w w' := he.mono fun e w' ⟨h5, h7⟩ => ⟨h5.elim (fun h => absurd h.1 hv) (fun h => h.2), h7⟩
      obtain ⟨j1, j2⟩ := jer_wrong hm hv
      rw [j1, j2]
      obtain ⟨a, c, g⟩ := x
      simp only [Pm.v] at *
      clear hx j1 j2 hv
      generalize g.length = n at *
      have hn : ¬ ((n : Int) > 64) := by omega
      go_enter Try.func10, Try.ntmps10
      go_wp2_with fail
      refine he.mono ?_
      rintro e w1 ⟨rfl, hw1⟩
      have E1 : Hid (Ext w w1) := hw1
      clear he hw1
      go_wp2
      go_ret2
      exact ⟨E1.out, ⟨none, 0, []⟩, bits_none _, rfl, rfl⟩

end Go.Proofs.Ytjgheojfdkfmkaa
