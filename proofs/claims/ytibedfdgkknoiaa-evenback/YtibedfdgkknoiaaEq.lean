/-
  What slices.Equal and quipuref.Bools answer of two words of bits: whether they are the same.
-/
import Derived.Test.YtibedfdgkknoiaaChecked
import Derived.Test.YtibedfdgkknoiaaBase
namespace Go.Proofs.Ytibedfdgkknoiaa
open Go.RowKit

set_option maxHeartbeats 400000 in
theorem equal_cells (a1 a2 : Option Addr) (n c1 c2 b1 o1 b2 o2 : Nat) (B1 B2 : Nat → Bool) (w : World) (hn : n ≤ maxLen)
    (h1 : 0 < n → a1 = some ⟨b1, o1, none⟩) (h2 : 0 < n → a2 = some ⟨b2, o2, none⟩)
    (d1 : ∀ i, i < n → w.cell? ⟨b1, o1 + i, none⟩ = some (.bool (B1 i))) (d2 : ∀ i, i < n → w.cell? ⟨b2, o2 + i, none⟩ = some (.bool (B2 i))) :
    Calls Try.prog 25 #[.slice a1 n c1, .slice a2 n c2] w fun e w' => (∃ r : Bool, e = .returned (.bool r) ∧ (r = true ↔ ∀ i, i < n → B1 i = B2 i)) ∧ Qt w w' := by
  unfold maxLen at hn
  go_enter Try.func25, Try.ntmps25
  go_wp2
  go_loopg [5, 13] n (fun gg _ s wr => ∃ k : Nat, k ≤ n ∧ n - k ≤ gg ∧ s = .int .i64 k ∧ Aside (Qt w wr) ∧ Aside (∀ i, i < k → B1 i = B2 i))
  case atStart => exact ⟨0, Nat.zero_le _, by omega, rfl, Qt.refl w, fun j hj => absurd hj (Nat.not_lt_zero _)⟩
  case round =>
    obtain ⟨k, hk, hg, rfl, BW, A⟩ := hrel
    by_cases hlt : k < n
    · have hltz : (k : Int) < (n : Int) := by omega
      obtain rfl := h1 (by omega)
      obtain rfl := h2 (by omega)
      have e1 := BW.out.cell (d1 k hlt)
      have e2 := BW.out.cell (d2 k hlt)
      clear h1 h2 d1 d2
      generalize hy1 : B1 k = y1 at e1
      generalize hy2 : B2 k = y2 at e2
      have Y : Aside (B1 k = y1 ∧ B2 k = y2) := ⟨hy1, hy2⟩
      clear hy1 hy2
      have fin : Aside (y1 ≠ y2 → ¬ ∀ i, i < n → B1 i = B2 i) := fun h h' => h (by rw [← Y.out.1, ← Y.out.2]; exact h' k hlt)
      have go : Aside (y1 = y2 → ∀ i, i < k + 1 → B1 i = B2 i) := fun h i hi => by
        rcases Nat.lt_succ_iff_lt_or_eq.1 hi with h' | rfl
        · exact A.out i h'
        · rw [Y.out.1, Y.out.2, h]
      cases y1 <;> cases y2
      all_goals
        go_wp2
        go_quiet (fail)
        go_wp2
        first
        | go_ret
          refine ⟨⟨false, rfl, ⟨fun h => ?_, fun h => ?_⟩⟩, BW.out.drewN _⟩
          · cases h
          · exact absurd h (fin.out (by simp))
        | go_roundg (n - (k + 1))
          case measure => omega
          case rel => exact ⟨k + 1, by omega, by omega, by go_num, BW.out.drewN _, go.out (by simp)⟩
    · go_wp2
      go_ret
      exact ⟨⟨true, rfl, ⟨fun _ i hi => A.out i (by omega), fun _ => rfl⟩⟩, BW.out⟩

set_option maxHeartbeats 400000 in
theorem bools_cells (a1 a2 : Option Addr) (n c1 c2 b1 o1 b2 o2 : Nat) (B1 B2 : Nat → Bool) (w : World) (hn : n ≤ maxLen)
    (h1 : 0 < n → a1 = some ⟨b1, o1, none⟩) (h2 : 0 < n → a2 = some ⟨b2, o2, none⟩)
    (d1 : ∀ i, i < n → w.cell? ⟨b1, o1 + i, none⟩ = some (.bool (B1 i))) (d2 : ∀ i, i < n → w.cell? ⟨b2, o2 + i, none⟩ = some (.bool (B2 i))) :
    Calls Try.prog 11 #[.slice a1 n c1, .slice a2 n c2] w fun e w' => (∃ r : Bool, e = .returned (.bool r) ∧ (r = true ↔ ∀ i, i < n → B1 i = B2 i)) ∧ Qt w w' := by
  unfold maxLen at hn
  go_enter Try.func11, Try.ntmps11
  go_wp2
  go_loopg [5] n (fun gg s wr => ∃ k : Nat, k ≤ n ∧ n - k ≤ gg ∧ s = .int .i64 k ∧ Aside (Qt w wr) ∧ Aside (∀ i, i < k → B1 i = B2 i))
  case atStart => exact ⟨0, Nat.zero_le _, by omega, rfl, Qt.refl w, fun j hj => absurd hj (Nat.not_lt_zero _)⟩
  case round =>
    obtain ⟨k, hk, hg, rfl, BW, A⟩ := hrel
    by_cases hlt : k < n
    · have hltz : (k : Int) < (n : Int) := by omega
      obtain rfl := h1 (by omega)
      obtain rfl := h2 (by omega)
      have e1 := BW.out.cell (d1 k hlt)
      have e2 := BW.out.cell (d2 k hlt)
      clear h1 h2 d1 d2
      generalize hy1 : B1 k = y1 at e1
      generalize hy2 : B2 k = y2 at e2
      have Y : Aside (B1 k = y1 ∧ B2 k = y2) := ⟨hy1, hy2⟩
      clear hy1 hy2
      have fin : Aside (y1 ≠ y2 → ¬ ∀ i, i < n → B1 i = B2 i) := fun h h' => h (by rw [← Y.out.1, ← Y.out.2]; exact h' k hlt)
      have go : Aside (y1 = y2 → ∀ i, i < k + 1 → B1 i = B2 i) := fun h i hi => by
        rcases Nat.lt_succ_iff_lt_or_eq.1 hi with h' | rfl
        · exact A.out i h'
        · rw [Y.out.1, Y.out.2, h]
      cases y1 <;> cases y2
      all_goals
        go_wp2
        go_quiet (fail)
        go_wp2
        first
        | go_ret
          refine ⟨⟨false, rfl, ⟨fun h => ?_, fun h => ?_⟩⟩, BW.out.drewN _⟩
          · cases h
          · exact absurd h (fin.out (by simp))
        | go_roundg (n - (k + 1))
          case measure => omega
          case rel => exact ⟨k + 1, by omega, by omega, by go_num, BW.out.drewN _, go.out (by simp)⟩
    · go_wp2
      go_ret
      exact ⟨⟨true, rfl, ⟨fun _ i hi => A.out i (by omega), fun _ => rfl⟩⟩, BW.out⟩


theorem getD_eq_iff (l m : List Bool) (h : l.length = m.length) : l = m ↔ ∀ i, i < l.length → l.getD i false = m.getD i false := by
  constructor
  · intro e i _; rw [e]
  · intro e
    apply List.ext_getElem h
    intro i h1 h2
    have := e i h1
    simpa [List.getD_eq_getElem?_getD, h1, h2] using this

set_option maxHeartbeats 400000 in
theorem equal_ne (a1 a2 : Option Addr) (n1 n2 c1 c2 : Nat) (w : World) (hne : ((n1 : Int) == (n2 : Int)) = false) :
    Calls Try.prog 25 #[.slice a1 n1 c1, .slice a2 n2 c2] w fun e w' => e = .returned (.bool false) ∧ Qt w w' := by
  go_enter Try.func25, Try.ntmps25
  go_wp2
  go_ret
  exact ⟨rfl, Qt.refl w⟩

theorem equal_any (x y : Wd) (w : World) (hx : Bits w x) (hy : Bits w y) :
    Calls Try.prog 25 #[x.v, y.v] w fun e w' => e = .returned (.bool (x.l == y.l)) ∧ Qt w w' := by
  by_cases hl : x.l.length = y.l.length
  · obtain ⟨h1, h2, _, b1, o1, h3, h4⟩ := hx
    obtain ⟨k1, k2, _, b2, o2, k3, k4⟩ := hy
    have hv : y.v = .slice y.a x.l.length y.c := by rw [hl]
    rw [hv]
    rw [← hl] at k3 k4
    refine (equal_cells x.a y.a x.l.length x.c y.c b1 o1 b2 o2 (fun i => x.l.getD i false) (fun i => y.l.getD i false) w (by omega) h3 k3 h4 k4).mono ?_
    rintro e w' ⟨⟨r, rfl, hr⟩, hb⟩
    refine ⟨?_, hb⟩
    have : r = (x.l == y.l) := by
      rw [Bool.eq_iff_iff, hr, beq_iff_eq]
      exact (getD_eq_iff _ _ hl).symm
    rw [this]
  · refine (equal_ne x.a y.a x.l.length y.l.length x.c y.c w (beq_eq_false_iff_ne.2 (by omega))).mono ?_
    rintro e w' ⟨rfl, hb⟩
    refine ⟨?_, hb⟩
    have : (x.l == y.l) = false := beq_eq_false_iff_ne.2 (fun h => hl (by rw [h]))
    rw [this]

set_option maxHeartbeats 400000 in
theorem bools_ne (a1 a2 : Option Addr) (n1 n2 c1 c2 : Nat) (w : World) (hne : ((n1 : Int) == (n2 : Int)) = false) :
    Calls Try.prog 11 #[.slice a1 n1 c1, .slice a2 n2 c2] w fun e w' => e = .returned (.bool false) ∧ Qt w w' := by
  go_enter Try.func11, Try.ntmps11
  go_wp2
  go_ret
  exact ⟨rfl, Qt.refl w⟩

theorem bools_any (x y : Wd) (w : World) (hx : Bits w x) (hy : Bits w y) :
    Calls Try.prog 11 #[x.v, y.v] w fun e w' => e = .returned (.bool (x.l == y.l)) ∧ Qt w w' := by
  by_cases hl : x.l.length = y.l.length
  · obtain ⟨h1, h2, _, b1, o1, h3, h4⟩ := hx
    obtain ⟨k1, k2, _, b2, o2, k3, k4⟩ := hy
    have hv : y.v = .slice y.a x.l.length y.c := by rw [hl]
    rw [hv]
    rw [← hl] at k3 k4
    refine (bools_cells x.a y.a x.l.length x.c y.c b1 o1 b2 o2 (fun i => x.l.getD i false) (fun i => y.l.getD i false) w (by omega) h3 k3 h4 k4).mono ?_
    rintro e w' ⟨⟨r, rfl, hr⟩, hb⟩
    refine ⟨?_, hb⟩
    have : r = (x.l == y.l) := by
      rw [Bool.eq_iff_iff, hr, beq_iff_eq]
      exact (getD_eq_iff _ _ hl).symm
    rw [this]
  · refine (bools_ne x.a y.a x.l.length y.l.length x.c y.c w (beq_eq_false_iff_ne.2 (by omega))).mono ?_
    rintro e w' ⟨rfl, hb⟩
    refine ⟨?_, hb⟩
    have : (x.l == y.l) = false := beq_eq_false_iff_ne.2 (fun h => hl (by rw [h]))
    rw [this]

end Go.Proofs.Ytibedfdgkknoiaa
