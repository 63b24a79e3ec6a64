/-
  stuff.Split; what quipuref.Splits has found at a place.
-/
import Derived.Test.YtglajpmifhecgaaFe
import Derived.Test.YtglajpmifhecgaaMq
namespace Go.Proofs.Ytglajpmifhecgaa
open Go.RowKit
set_option linter.unusedVariables false

theorem Split_large (x : Wd) (hl : 1000 < x.l.length) (hm : x.l.length ≤ maxLen) (w : World) : Calls Try.prog 16 #[x.v] w fun e w' => e = .returned (.tuple #[.slice none 0 0, .int .i64 1]) ∧ w' = w := by
  simp only [Wd.v]
  generalize x.l.length = n at *
  unfold maxLen at hm
  have hz : (n : Int) > 1000 := by omega
  go_enter Try.func16, Try.ntmps16
  go_wp2
  go_ret2
  exact ⟨rfl, rfl⟩

set_option maxHeartbeats 1000000 in
/-- stuff.Split. -/
theorem Split_any (x : Wd) (hl : x.l.length ≤ 1000) (w : World) (hx : Bits w x) : Calls Try.prog 16 #[x.v] w fun e w' => Ext w w' ∧ ((e = .returned (.tuple #[.slice none 0 0, .int .i64 3]) ∧ ∀ ts, x.l = frm ts → large ts = true) ∨ ∃ v X, e = .returned (.tuple #[v, .int .i64 0]) ∧ x.l = frm (X.map (·.l)) ∧ large (X.map (·.l)) = false ∧ OwnT w w' v X) := by
  have c1 := between_any x hl w hx
  clear hx
  obtain ⟨a0, c0, l⟩ := x
  simp only [Wd.v] at *
  obtain ⟨n, hn⟩ : ∃ n, l.length = n := ⟨_, rfl⟩
  rw [hn] at c1 hl ⊢
  clear hn
  have hz : ¬ (n : Int) > 1000 := by omega
  go_enter Try.func16, Try.ntmps16
  go_wp2_with fail
  refine c1.mono ?_
  rintro e w1 ⟨E, h⟩
  have E1 : Hid (Ext w w1) := E
  clear c1 E
  rcases h with ⟨rfl, h⟩ | ⟨v, X, rfl, h, O⟩
  · have H : Hid (∀ ts, l = frm ts → large ts = true) := fun ts e => absurd e (h ts)
    clear h
    go_wp2
    go_ret2
    first | exact ⟨E1.out, Or.inl ⟨rfl, H.out⟩⟩ | exact ⟨E1.out, rfl, H.out⟩
  · have O1 : Hid (OwnT w w1 v X) := O
    have H : Hid (l = frm (X.map (·.l))) := h
    obtain ⟨a, c, rfl, hw⟩ := O.wds
    have c2 := tooLarge_any a c X w1 hw
    clear h O hw
    cases hg : large (X.map (·.l))
    · rw [hg] at c2
      have HG : Hid (large (X.map (·.l)) = false) := hg
      clear hg
      go_wp2_with fail
      refine c2.mono ?_
      rintro e w2 ⟨rfl, E⟩
      have O2 : Hid (OwnT w w2 (.slice a X.length c) X) := O1.out.mono E
      clear c2 E O1
      go_wp2
      go_ret2
      first | exact ⟨O2.out.ext, Or.inr ⟨_, X, rfl, H.out, HG.out, O2.out⟩⟩ | exact ⟨O2.out.ext, X, rfl, H.out, HG.out, O2.out⟩
    · rw [hg] at c2
      have H2 : Hid (∀ ts, l = frm ts → large ts = true) := fun ts e => by rw [← frm_inj (H.out.symm.trans e)]; exact hg
      clear hg
      go_wp2_with fail
      refine c2.mono ?_
      rintro e w2 ⟨rfl, E⟩
      have O2 : Hid (OwnT w w2 (.slice a X.length c) X) := O1.out.mono E
      clear c2 E O1
      go_wp2
      go_ret2
      first | exact ⟨O2.out.ext, Or.inl ⟨rfl, H2.out⟩⟩ | exact ⟨O2.out.ext, rfl, H2.out⟩

/-- There is nothing to be told. -/
def Nil (l : List Bool) : Prop := ∀ ts, l = frm ts → large ts = true
/-- Ahead of i a flag was found at s and nowhere behind it; ahead of it these texts. -/
def At (l : List Bool) (i s : Nat) (T : List (List Bool)) : Prop := Found l (s + 8) T ∧ (∀ t ∈ T, t.length ≤ 64) ∧ s < i ∧ ∀ j, s + 8 ≤ j → j < i → ¬ flAt l j

theorem flAt_drop {l : List Bool} {k j : Nat} (h : k ≤ j) : flAt l j ↔ flAt (l.drop k) (j - k) := by
  unfold flAt
  rw [List.drop_drop, show k + (j - k) = j by omega]
theorem at_first {l : List Bool} (h : flAt l 0) : At l 1 0 [] := ⟨(found_zero h).2, fun t ht => (by cases ht), by omega, fun j h1 h2 => (by omega)⟩
theorem nil_first {l : List Bool} (h : ¬ flAt l 0) : Nil l := fun ts e => absurd e (not_first h ts)
theorem at_next {l : List Bool} {i s : Nat} {T : List (List Bool)} (h : At l i s T) (hn : ¬ flAt l i ∨ i < s + 8) : At l (i + 1) s T := by
  refine ⟨h.1, h.2.1, by have := h.2.2.1; omega, fun j h1 h2 => ?_⟩
  rcases Nat.lt_succ_iff_lt_or_eq.1 h2 with h' | rfl
  · exact h.2.2.2 j h1 h'
  · rcases hn with hn | hn
    · exact hn
    · omega
theorem at_flag {l : List Bool} {i s : Nat} {T : List (List Bool)} (h : At l i s T) (hf : flAt l i) (hs : s + 8 ≤ i) : flAt (l.drop (s + 8)) (i - (s + 8)) ∧ ∀ j, j < i - (s + 8) → ¬ flAt (l.drop (s + 8)) j := by
  refine ⟨(flAt_drop hs).1 hf, fun j hj hj2 => ?_⟩
  have := h.2.2.2 (s + 8 + j) (by omega) (by omega)
  rw [flAt_drop (k := s + 8) (by omega), Nat.add_sub_cancel_left] at this
  exact this hj2
theorem at_bad {l : List Bool} {i s : Nat} {T : List (List Bool)} (h : At l i s T) (hf : flAt l i) (hs : s + 8 ≤ i) (hb : br 0 ((l.drop (s + 8)).take (i - (s + 8))) = none) : Nil l := by
  obtain ⟨h1, h2⟩ := at_flag h hf hs
  exact fun ts e => absurd e (found_bad h.1 h1 h2 hb ts)
theorem at_text {l t : List Bool} {i s : Nat} {T : List (List Bool)} (h : At l i s T) (hf : flAt l i) (hs : s + 8 ≤ i) (hb : br 0 ((l.drop (s + 8)).take (i - (s + 8))) = some t) : Found l (i + 8) (T ++ [t]) := by
  obtain ⟨h1, h2⟩ := at_flag h hf hs
  have := (found_next h.1 h1 hb).2
  rw [show s + 8 + (i - (s + 8) + 8) = i + 8 by omega] at this
  exact this
theorem at_long {l t : List Bool} {i s : Nat} {T : List (List Bool)} (h : At l i s T) (hf : flAt l i) (hs : s + 8 ≤ i) (hb : br 0 ((l.drop (s + 8)).take (i - (s + 8))) = some t) (ht : 64 < t.length) : Nil l := fun ts e => by
  obtain ⟨vs, h1, _⟩ := found_rest (at_text h hf hs hb) e
  rw [h1]
  exact large_yes (t := t) (by simp) ht
theorem at_more {l t : List Bool} {i s : Nat} {T : List (List Bool)} (h : At l i s T) (hf : flAt l i) (hs : s + 8 ≤ i) (hb : br 0 ((l.drop (s + 8)).take (i - (s + 8))) = some t) (ht : t.length ≤ 64) : At l (i + 1) i (T ++ [t]) := by
  refine ⟨at_text h hf hs hb, fun u hu => ?_, by omega, fun j h1 h2 => by omega⟩
  rcases List.mem_append.1 hu with hu | hu
  · exact h.2.1 u hu
  · rw [List.mem_singleton] at hu
    rw [hu]; exact ht
theorem at_many {l : List Bool} {i s : Nat} {T : List (List Bool)} (h : At l i s T) (hT : 8 < T.length) : Nil l := fun ts e => by
  obtain ⟨vs, h1, _⟩ := found_rest h.1 e
  rw [h1]
  exact large_long (by rw [List.length_append]; omega)
theorem at_fit {l : List Bool} {i s : Nat} {T : List (List Bool)} (h : At l i s T) (hT : T.length ≤ 8) : large T = false := large_no.2 ⟨hT, h.2.1⟩
theorem at_end {l : List Bool} {i s : Nat} {T : List (List Bool)} (h : At l i s T) (hi : l.length < i + 8) (hne : l ≠ frm T) : Nil l := fun ts e => by
  exfalso
  obtain ⟨vs, h1, h2⟩ := found_rest h.1 e
  cases vs with
  | nil => rw [List.append_nil] at h1; exact hne (by rw [← h1]; exact e)
  | cons u us =>
    have e2 : fr (u :: us) = sf 0 u ++ (fl ++ fr us) := by rw [← List.append_assoc]; rfl
    have hf := flAt_here u (fr us)
    rw [← e2, ← h2] at hf
    have h8 := flAt_le hf
    rw [List.length_drop] at h8
    have := h.2.2.2 (s + 8 + (sf 0 u).length) (by omega) (by omega)
    rw [flAt_drop (k := s + 8) (by omega), Nat.add_sub_cancel_left] at this
    exact this hf
end Go.Proofs.Ytglajpmifhecgaa
