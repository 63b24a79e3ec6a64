/-
  points.Fill.
-/
import Derived.Test.YtjdipgkdaloclaaFd
import Derived.Test.YtjdipgkdaloclaaNum
namespace Go.Proofs.Ytjdipgkdaloclaa
open Go.RowKit

theorem any_ofc (z : List Int) (bs : List Bool) (d : List Nat) (n : Nat) : ((zl (lft bs n)).any fun q => ((ep d q.toNat : Nat) : Int) != z.getD q.toNat 0) = decide (0 < ofc z bs d n) := by
  rw [Bool.eq_iff_iff, decide_eq_true_iff, List.any_eq_true]
  unfold ofc
  rw [List.countP_pos_iff]
  constructor
  · rintro ⟨q, hq, h⟩
    obtain ⟨i, hi, rfl⟩ := List.mem_map.1 hq
    have hi2 := lft_mem.1 hi
    refine ⟨i, List.mem_range.2 hi2.1, ?_⟩
    unfold dif
    rw [hi2.2]
    simpa using h
  · rintro ⟨i, hi, h⟩
    unfold dif at h
    rw [Bool.and_eq_true] at h
    refine ⟨(i : Int), List.mem_map.2 ⟨i, lft_mem.2 ⟨List.mem_range.1 hi, by simpa using h.2⟩, rfl⟩, ?_⟩
    simpa using h.1
theorem ofc_none {z : List Int} {bs : List Bool} {d : List Nat} {n : Nat} (h : ¬ 0 < ofc z bs d n) (i : Nat) (hi : i < n) (hl : bs.getD i false = false) : ((ep d i : Nat) : Int) = z.getD i 0 := by
  have h0 : ofc z bs d n = 0 := by omega
  unfold ofc at h0
  have := List.countP_eq_zero.1 h0 i (List.mem_range.2 hi)
  unfold dif at this
  rw [hl] at this
  simpa using this
theorem none_ofc {z : List Int} {bs : List Bool} {d : List Nat} {n : Nat} (h : ∀ i, i < n → bs.getD i false = false → ((ep d i : Nat) : Int) = z.getD i 0) : ¬ 0 < ofc z bs d n := by
  have : ofc z bs d n = 0 := by
    unfold ofc
    rw [List.countP_eq_zero]
    intro i hi hd
    unfold dif at hd
    rw [Bool.and_eq_true] at hd
    have := h i (List.mem_range.1 hi) (by simpa using hd.2)
    rw [this] at hd
    simp at hd
  omega

/-- Numbers that are told by k of the places are told by any k of them. -/
theorem told_same {z : List Int} {bs : List Bool} {l m : List Nat} {k : Nat} (hn : z.length ≤ 9) (ho : okl z bs) (hl : ∀ p ∈ l, p < z.length ∧ bs.getD p false = false) (hm : ∀ p ∈ m, p < z.length ∧ bs.getD p false = false)
    (pl : l.Pairwise (· ≠ ·)) (pm : m.Pairwise (· ≠ ·)) (kl : k ≤ l.length) (km : k ≤ m.length)
    (h : ¬ 0 < ofc z bs (nl (nd (lf z) (fun i => l.getD i 0) k) k) z.length) : nl (nd (lf z) (fun i => l.getD i 0) k) k = nl (nd (lf z) (fun i => m.getD i 0) k) k := by
  have p1 := plc_of hn ho hl pl kl
  have p2 := plc_of hn ho hm pm km
  refine nl_congr (same (P := fun i => m.getD i 0 + 1) (fun i _ => nd_lt p1 i) (fun i _ => nd_lt p2 i) (fun i hi => by have := p2.low i hi; omega) (fun i j hi hj e => p2.one i j hi hj (by omega)) (fun i hi => ?_))
  have hmi := hm _ (getD_mem (l := m) (i := i) (by omega))
  have e1 := ofc_none h _ hmi.1 hmi.2
  have e2 := val_of ho hm km i hi
  have e3 := nd_val p2 hi
  rw [e3]
  rw [e2] at e1
  exact Int.ofNat.inj e1

theorem fil_same {z : List Int} {bs : List Bool} {k : Nat} (hn : z.length ≤ 9) (ho : okl z bs) : fil z bs k (nd (lf z) (qf bs z.length) k) = fil z bs k (nd (lf z) (pf bs z.length) k) ∧ fin z bs k (nd (lf z) (qf bs z.length) k) = fin z bs k (nd (lf z) (pf bs z.length) k) := by
  have h1 : ∀ p ∈ lft bs z.length, p < z.length ∧ bs.getD p false = false := fun p hp => lft_mem.1 hp
  have h2 : ∀ p ∈ (lft bs z.length).reverse, p < z.length ∧ bs.getD p false = false := fun p hp => lft_mem.1 (List.mem_reverse.1 hp)
  have q1 := lft_pw bs z.length
  have q2 : (lft bs z.length).reverse.Pairwise (· ≠ ·) := by
    rw [List.pairwise_reverse]
    exact q1.imp (fun h => Ne.symm h)
  have main : fil z bs k (nd (lf z) (qf bs z.length) k) = fil z bs k (nd (lf z) (pf bs z.length) k) ∧ (fil z bs k (nd (lf z) (pf bs z.length) k) = 0 → nl (nd (lf z) (qf bs z.length) k) k = nl (nd (lf z) (pf bs z.length) k) k) := by
    unfold fil
    by_cases hM : (lft bs z.length).length < k
    · rw [if_pos hM, if_pos hM]
      exact ⟨rfl, fun h => by cases h⟩
    · rw [if_neg hM, if_neg hM]
      have k1 : k ≤ (lft bs z.length).length := by omega
      have k2 : k ≤ (lft bs z.length).reverse.length := by rw [List.length_reverse]; exact k1
      by_cases c1 : 0 < ofc z bs (nl (nd (lf z) (pf bs z.length) k) k) z.length
      · by_cases c2 : 0 < ofc z bs (nl (nd (lf z) (qf bs z.length) k) k) z.length
        · rw [if_pos c1, if_pos c2]
          exact ⟨rfl, fun h => by cases h⟩
        · have e := told_same hn ho h2 h1 q2 q1 k2 k1 c2
          exact absurd (by rw [← e] at c1; exact c1) c2
      · have e := told_same hn ho h1 h2 q1 q2 k1 k2 c1
        rw [← e, if_neg c1]
        exact ⟨rfl, fun _ => rfl⟩
  refine ⟨main.1, ?_⟩
  unfold fin
  rw [main.1]
  by_cases h0 : fil z bs k (nd (lf z) (pf bs z.length) k) = 0
  · rw [if_pos h0, if_pos h0, main.2 h0]
  · rw [if_neg h0, if_neg h0]

/-- The test whether another number lies at a place. -/
theorem pred_any (B1 B2 : Nat) (a1 a2 : Option Addr) (n c1 c2 b1 o1 b2 o2 p : Nat) (u v : Int) (W : World) (h1 : W.cell? ⟨B1, 0, none⟩ = some (.slice a1 n c1)) (h2 : W.cell? ⟨B2, 0, none⟩ = some (.slice a2 n c2)) (hp : p < n) (ha1 : a1 = some ⟨b1, o1, none⟩) (ha2 : a2 = some ⟨b2, o2, none⟩)
    (hu : W.cell? ⟨b1, o1 + p, none⟩ = some (.int .i64 u)) (hv : W.cell? ⟨b2, o2 + p, none⟩ = some (.int .i64 v)) :
    Calls Try.prog 24 #[.int .i64 p, .pointer (some ⟨B1, 0, none⟩), .pointer (some ⟨B2, 0, none⟩)] W fun e w' => e = .returned (.bool (u != v)) ∧ Ext W w' := by
  have hpz : (p : Int) < (n : Int) := by omega
  have E : Hid (∀ q, Ext W (W.drewN q)) := fun q => (Ext.refl W).drewN q
  subst ha1 ha2
  go_enter Try.func24, Try.ntmps24
  go_wp2
  go_quiet (fail)
  go_wp2
  go_ret
  exact ⟨rfl, E.out _⟩

set_option maxRecDepth 100000 in
theorem Fill_counts (k : Int) (y : Nm) (x : Bd) (X : Int) (hX : pc k y.z.length = X) (h0 : X ≠ 0) (w : World) : Calls Try.prog 11 #[.int .i64 k, y.v, x.v] w fun e w' => e = .returned (.tuple #[.slice none 0 0, .int .i64 X]) ∧ Ext w w' := by
  have c1 := counts_any k y.z.length (w.alloc (.cells #[y.v] 22))
  rw [hX] at c1
  have hb := (Boxed.new w 22 y.v).cell
  have E : Hid (Ext w (w.alloc (.cells #[y.v] 22))) := (Ext.refl w).alloc _
  have hz : (X != 0) = true := bne_iff_ne.2 h0
  clear h0 hX
  simp only [Nm.v, Bd.v] at *
  generalize y.z.length = n at *
  generalize x.l.length = m at *
  go_enter Try.func11, Try.ntmps11
  go_wp2_with fail
  refine c1.mono ?_
  rintro e w' ⟨rfl, hh⟩
  have hh := hh.symm
  subst hh
  clear c1
  go_wp2
  go_ret2
  exact ⟨rfl, E.out⟩

set_option maxRecDepth 100000 in
theorem Fill_form (k : Int) (y : Nm) (x : Bd) (hX : pc k y.z.length = 0) (hl : x.l.length ≠ y.z.length) (w : World) : Calls Try.prog 11 #[.int .i64 k, y.v, x.v] w fun e w' => e = .returned (.tuple #[.slice none 0 0, .int .i64 3]) ∧ Ext w w' := by
  have c1 := counts_any k y.z.length (w.alloc (.cells #[y.v] 22))
  rw [hX] at c1
  have hb := (Boxed.new w 22 y.v).cell
  have E : Hid (Ext w (w.alloc (.cells #[y.v] 22))) := (Ext.refl w).alloc _
  have hz : (((x.l.length : Nat) : Int) != ((y.z.length : Nat) : Int)) = true := bne_iff_ne.2 (by omega)
  clear hl hX
  simp only [Nm.v, Bd.v] at *
  generalize y.z.length = n at *
  generalize x.l.length = m at *
  go_enter Try.func11, Try.ntmps11
  go_wp2_with fail
  refine c1.mono ?_
  rintro e w' ⟨rfl, hh⟩
  have hh := hh.symm
  subst hh
  clear c1
  go_wp2
  go_ret2
  exact ⟨rfl, E.out⟩

end Go.Proofs.Ytjdipgkdaloclaa
