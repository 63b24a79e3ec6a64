/-
  quipuref.PhrasesSame: are two lists of phrases the same?
-/
import Derived.Test.YtjgheojfdkfmkaaPh
namespace Go.Proofs.Ytjgheojfdkfmkaa
open Go.RowKit

set_option maxHeartbeats 2000000 in
theorem same_cells (a1 a2 : Option Addr) (n c1 c2 b1 o1 b2 o2 : Nat) (B1 B2 : Nat → Int × Int) (w : World) (hn : n ≤ maxLen)
    (h1 : 0 < n → a1 = some ⟨b1, o1, none⟩) (h2 : 0 < n → a2 = some ⟨b2, o2, none⟩)
    (d1 : ∀ i, i < n → w.cell? ⟨b1, o1 + i * 2, none⟩ = some (.int .i64 (B1 i).1) ∧ w.cell? ⟨b1, o1 + i * 2 + 1, none⟩ = some (.int .u8 (B1 i).2))
    (d2 : ∀ i, i < n → w.cell? ⟨b2, o2 + i * 2, none⟩ = some (.int .i64 (B2 i).1) ∧ w.cell? ⟨b2, o2 + i * 2 + 1, none⟩ = some (.int .u8 (B2 i).2)) :
    Calls Try.prog 8 #[.slice a1 n c1, .slice a2 n c2] w fun e w' => (∃ r : Bool, e = .returned (.bool r) ∧ (r = true ↔ ∀ i, i < n → B1 i = B2 i)) ∧ Qt w w' := by
  unfold maxLen at hn
  go_enter Try.func8, Try.ntmps8
  go_wp2
  go_loopg [5] n (fun gg s wr => ∃ k : Nat, k ≤ n ∧ n - k ≤ gg ∧ s = .int .i64 k ∧ Aside (Qt w wr) ∧ Aside (∀ i, i < k → B1 i = B2 i))
  case atStart => exact ⟨0, Nat.zero_le _, by omega, rfl, Qt.refl w, fun j hj => absurd hj (Nat.not_lt_zero _)⟩
  case round =>
    obtain ⟨k, hk, hg, rfl, BW, A⟩ := hrel
    by_cases hlt : k < n
    · have hltz : (k : Int) < (n : Int) := by omega
      obtain rfl := h1 (by omega)
      obtain rfl := h2 (by omega)
      obtain ⟨e1, f1⟩ := d1 k hlt
      obtain ⟨e2, f2⟩ := d2 k hlt
      have e1 := BW.out.cell e1
      have e2 := BW.out.cell e2
      have f1 := BW.out.cell f1
      have f2 := BW.out.cell f2
      clear h1 h2 d1 d2
      have fin : Aside (B1 k ≠ B2 k → ¬ ∀ i, i < n → B1 i = B2 i) := fun h h' => h (h' k hlt)
      have go : Aside (B1 k = B2 k → ∀ i, i < k + 1 → B1 i = B2 i) := fun h i hi => by
        rcases Nat.lt_succ_iff_lt_or_eq.1 hi with h' | rfl
        · exact A.out i h'
        · exact h
      generalize B1 k = y1 at *
      generalize B2 k = y2 at *
      obtain ⟨p1, q1⟩ := y1
      obtain ⟨p2, q2⟩ := y2
      simp only at e1 e2 f1 f2
      clear A
      by_cases hq : (p1 == p2) = true ∧ (q1 == q2) = true
      · obtain ⟨hq1, hq2⟩ := hq
        have go' : Aside (∀ i, i < k + 1 → B1 i = B2 i) := go.out (by rw [beq_iff_eq.1 hq1, beq_iff_eq.1 hq2])
        clear fin go
        go_wp2
        go_quiet (fail)
        go_wp2
        go_roundg (n - (k + 1))
        case measure => omega
        case rel => exact ⟨k + 1, by omega, by omega, by go_num, BW.out.drewN _, go'.out⟩
      · have fin' : Aside (¬ ∀ i, i < n → B1 i = B2 i) := fin.out (fun h => by
          injection h with h5 h6
          exact hq ⟨by rw [h5]; simp, by rw [h6]; simp⟩)
        clear fin go
        by_cases hq1 : (p1 == p2) = true
        · have hq2 : (q1 == q2) = false := by
            cases h : (q1 == q2)
            · rfl
            · exact absurd ⟨hq1, h⟩ hq
          clear hq
          go_wp2
          go_quiet (fail)
          go_wp2
          go_ret
          exact ⟨⟨false, rfl, ⟨fun h => (by cases h), fun h => absurd h fin'.out⟩⟩, BW.out.drewN _⟩
        · have hq3 : (p1 == p2) = false := by
            cases h : (p1 == p2)
            · rfl
            · exact absurd h hq1
          clear hq hq1
          go_wp2
          go_quiet (fail)
          go_wp2
          go_ret
          exact ⟨⟨false, rfl, ⟨fun h => (by cases h), fun h => absurd h fin'.out⟩⟩, BW.out.drewN _⟩
    · go_wp2
      go_ret
      exact ⟨⟨true, rfl, ⟨fun _ i hi => A.out i (by omega), fun _ => rfl⟩⟩, BW.out⟩

set_option maxHeartbeats 400000 in
theorem same_ne (a1 a2 : Option Addr) (n1 n2 c1 c2 : Nat) (w : World) (hne : ((n1 : Int) == (n2 : Int)) = false) :
    Calls Try.prog 8 #[.slice a1 n1 c1, .slice a2 n2 c2] w fun e w' => e = .returned (.bool false) ∧ Qt w w' := by
  go_enter Try.func8, Try.ntmps8
  go_wp2
  go_ret
  exact ⟨rfl, Qt.refl w⟩

theorem getD_eq_iffP (l m : List (Int × Int)) (h : l.length = m.length) : l = m ↔ ∀ i, i < l.length → l.getD i (0, 0) = m.getD i (0, 0) := by
  constructor
  · intro e i _; rw [e]
  · intro e
    apply List.ext_getElem h
    intro i h1 h2
    have := e i h1
    simpa [List.getD_eq_getElem?_getD, h1, h2] using this

theorem Phs.cells {w : World} {x : Pm} {b o : Nat} (h4 : ∀ i (_ : i < x.g.length), w.cell? ⟨b, o + i * 2, none⟩ = some (.int .i64 x.g[i].1) ∧ w.cell? ⟨b, o + i * 2 + 1, none⟩ = some (.int .u8 x.g[i].2)) (i : Nat) (hi : i < x.g.length) :
    w.cell? ⟨b, o + i * 2, none⟩ = some (.int .i64 (x.g.getD i (0, 0)).1) ∧ w.cell? ⟨b, o + i * 2 + 1, none⟩ = some (.int .u8 (x.g.getD i (0, 0)).2) := by
  have := h4 i hi
  simpa [List.getD_eq_getElem?_getD, hi] using this

theorem same_any (x y : Pm) (w : World) (hx : Phs w x) (hy : Phs w y) :
    Calls Try.prog 8 #[x.v, y.v] w fun e w' => e = .returned (.bool (x.g == y.g)) ∧ Qt w w' := by
  by_cases hl : x.g.length = y.g.length
  · obtain ⟨h1, h2, _, b1, o1, h3, h4⟩ := hx
    obtain ⟨k1, k2, _, b2, o2, k3, k4⟩ := hy
    have hv : y.v = .slice y.a x.g.length y.c := by rw [hl]
    have h5 := Phs.cells h4
    have k5 := Phs.cells k4
    rw [hv]
    rw [← hl] at k3 k5
    refine (same_cells x.a y.a x.g.length x.c y.c b1 o1 b2 o2 (fun i => x.g.getD i (0, 0)) (fun i => y.g.getD i (0, 0)) w (by omega) h3 k3 h5 k5).mono ?_
    rintro e w' ⟨⟨r, rfl, hr⟩, hb⟩
    refine ⟨?_, hb⟩
    have : r = (x.g == y.g) := by
      rw [Bool.eq_iff_iff, hr, beq_iff_eq]
      exact (getD_eq_iffP _ _ hl).symm
    rw [this]
  · refine (same_ne x.a y.a x.g.length y.g.length x.c y.c w (beq_eq_false_iff_ne.2 (by omega))).mono ?_
    rintro e w' ⟨rfl, hb⟩
    refine ⟨?_, hb⟩
    have : (x.g == y.g) = false := beq_eq_false_iff_ne.2 (fun h => hl (by rw [h]))
    rw [this]

end Go.Proofs.Ytjgheojfdkfmkaa
