/-
  What the races of a search cover, round by round. Nothing here speaks of the program.
-/
import Derived.Test.YtlhkifbjbibfoaaRace
namespace Go.Proofs.Ytlhkifbjbibfoaa
open Go.RowKit

/-- One of the races has this tail. -/
def Cov (R : List Rc) (t : List Bool) : Prop := ∃ r ∈ R, r.t.l = t

theorem Cov.left {R R' : List Rc} {t : List Bool} (h : Cov R t) : Cov (R ++ R') t := by
  obtain ⟨r, hr, h⟩ := h
  exact ⟨r, List.mem_append_left _ hr, h⟩
theorem Cov.right {R R' : List Rc} {t : List Bool} (h : Cov R' t) : Cov (R ++ R') t := by
  obtain ⟨r, hr, h⟩ := h
  exact ⟨r, List.mem_append_right _ hr, h⟩
theorem Cov.last {R : List Rc} {r : Rc} {t : List Bool} (h : r.t.l = t) : Cov (R ++ [r]) t := ⟨r, by simp, h⟩

/-- Each race is one, its tail is no longer than a word, its lists have no more than so many symbols. -/
def Sound (ws : List (List Bool)) (N : Nat) (R : List Rc) : Prop := ∀ r ∈ R, Good ws r.b r.a r.t.l ∧ r.t.l.length ≤ 8 ∧ r.b.length + r.a.length ≤ N

theorem sound_nil (ws : List (List Bool)) (N : Nat) : Sound ws N [] := fun r hr => by cases hr
theorem Sound.app {ws : List (List Bool)} {N : Nat} {R R' : List Rc} (h : Sound ws N R) (h' : Sound ws N R') : Sound ws N (R ++ R') := fun r hr => (List.mem_append.1 hr).elim (h r) (h' r)
theorem Sound.mono {ws : List (List Bool)} {N N' : Nat} {R : List Rc} (h : Sound ws N R) (hn : N ≤ N') : Sound ws N' R := fun r hr => ⟨(h r hr).1, (h r hr).2.1, Nat.le_trans (h r hr).2.2 hn⟩
theorem sound_one {ws : List (List Bool)} {N : Nat} {r : Rc} (h : Good ws r.b r.a r.t.l) (h8 : r.t.l.length ≤ 8) (hn : r.b.length + r.a.length ≤ N) : Sound ws N [r] := fun s hs => by
  simp at hs
  subst hs
  exact ⟨h, h8, hn⟩

/-- The races of a word against the others, up to the one of number j. -/
def At (ws : List (List Bool)) (i j : Nat) (R : List Rc) : Prop :=
  ∀ (h : i < ws.length), (ws[i] = [] → Cov R []) ∧ ∀ j' (hj : j' < ws.length), j' < j → j' ≠ i → ws[i].isPrefixOf ws[j'] = true → Cov R (ws[j'].drop ws[i].length)

theorem At.left {ws : List (List Bool)} {i j : Nat} {R R' : List Rc} (h : At ws i j R) : At ws i j (R ++ R') := fun hi => ⟨fun e => ((h hi).1 e).left, fun j' hj hlt hne hp => ((h hi).2 j' hj hlt hne hp).left⟩

structure St (ws : List (List Bool)) (i : Nat) (R : List Rc) : Prop where
  begun : ∀ i', i' < i → At ws i' ws.length R
  sound : Sound ws 2 R
  few : R.length ≤ 9 * i

structure St2 (ws : List (List Bool)) (i j : Nat) (R : List Rc) : Prop where
  begun : ∀ i', i' < i → At ws i' ws.length R
  now : At ws i j R
  sound : Sound ws 2 R
  few : R.length ≤ 9 * i + 1 + j

theorem st_zero (ws : List (List Bool)) : St ws 0 [] := ⟨fun i' h => absurd h (Nat.not_lt_zero _), sound_nil _ _, by simp⟩

theorem st_bare {ws : List (List Bool)} {i : Nat} {R : List Rc} (h : St ws i R) {r : Rc} (hr : Sound ws 2 [r]) (ht : r.t.l = []) : St2 ws i 0 (R ++ [r]) :=
  ⟨fun i' hi => (h.begun i' hi).left, fun _ => ⟨fun _ => Cov.last ht, fun _ _ hlt => absurd hlt (Nat.not_lt_zero _)⟩, h.sound.app hr, by have := h.few; simp; omega⟩
theorem st_not {ws : List (List Bool)} {i : Nat} {R : List Rc} (h : St ws i R) (hi : i < ws.length) (hne : ws[i] ≠ []) : St2 ws i 0 R :=
  ⟨h.begun, fun _ => ⟨fun e => absurd e hne, fun _ _ hlt => absurd hlt (Nat.not_lt_zero _)⟩, h.sound, by have := h.few; omega⟩
theorem st2_step {ws : List (List Bool)} {i j : Nat} {R : List Rc} (h : St2 ws i j R) {r : Rc} (hi : i < ws.length) (hj : j < ws.length) (hr : Sound ws 2 [r]) (ht : r.t.l = ws[j].drop ws[i].length) : St2 ws i (j + 1) (R ++ [r]) := by
  refine ⟨fun i' hi => (h.begun i' hi).left, fun hi' => ⟨fun e => ((h.now hi').1 e).left, fun j' hj' hlt hne hp => ?_⟩, h.sound.app hr, by have := h.few; simp; omega⟩
  by_cases e : j' = j
  · subst e
    exact Cov.last ht
  · exact ((h.now hi').2 j' hj' (by omega) hne hp).left
theorem st2_skip {ws : List (List Bool)} {i j : Nat} {R : List Rc} (h : St2 ws i j R) (hi : i < ws.length) (hj : j < ws.length) (hno : j = i ∨ ws[i].isPrefixOf ws[j] = false) : St2 ws i (j + 1) R := by
  refine ⟨h.begun, fun hi' => ⟨(h.now hi').1, fun j' hj' hlt hne hp => ?_⟩, h.sound, by have := h.few; omega⟩
  by_cases e : j' = j
  · subst e
    rcases hno with hno | hno
    · exact absurd hno hne
    · rw [hno] at hp; cases hp
  · exact (h.now hi').2 j' hj' (by omega) hne hp
theorem st2_end {ws : List (List Bool)} {i : Nat} {R : List Rc} (h : St2 ws i ws.length R) (h8 : ws.length ≤ 8) : St ws (i + 1) R := by
  refine ⟨fun i' hi => ?_, h.sound, by have := h.few; omega⟩
  by_cases e : i' = i
  · subst e; exact h.now
  · exact h.begun i' (by omega)

/-- The races that come of a tail, of the words ahead of number i. -/
structure Sp (ws : List (List Bool)) (t : List Bool) (N i : Nat) (R : List Rc) : Prop where
  cov : ∀ i' (h : i' < ws.length), i' < i → (ws[i'].isPrefixOf t = true → Cov R (t.drop ws[i'].length)) ∧ (ws[i'].isPrefixOf t = false → t.isPrefixOf ws[i'] = true → Cov R (ws[i'].drop t.length))
  sound : Sound ws (N + 1) R
  few : R.length ≤ i

theorem sp_zero (ws : List (List Bool)) (t : List Bool) (N : Nat) : Sp ws t N 0 [] := ⟨fun _ _ h => absurd h (Nat.not_lt_zero _), sound_nil _ _, by simp⟩
theorem sp_behind {ws : List (List Bool)} {t : List Bool} {N i : Nat} {R : List Rc} (h : Sp ws t N i R) (hi : i < ws.length) {r : Rc} (hs : Sound ws (N + 1) [r]) (hp : ws[i].isPrefixOf t = true) (ht : r.t.l = t.drop ws[i].length) : Sp ws t N (i + 1) (R ++ [r]) := by
  refine ⟨fun i' h' hlt => ?_, h.sound.app hs, by have := h.few; simp; omega⟩
  by_cases e : i' = i
  · subst e
    exact ⟨fun _ => Cov.last ht, fun hf => by rw [hp] at hf; cases hf⟩
  · have := h.cov i' h' (by omega)
    exact ⟨fun hh => (this.1 hh).left, fun h1 h2 => (this.2 h1 h2).left⟩
theorem sp_ahead {ws : List (List Bool)} {t : List Bool} {N i : Nat} {R : List Rc} (h : Sp ws t N i R) (hi : i < ws.length) {r : Rc} (hs : Sound ws (N + 1) [r]) (hp : ws[i].isPrefixOf t = false) (ht : r.t.l = ws[i].drop t.length) : Sp ws t N (i + 1) (R ++ [r]) := by
  refine ⟨fun i' h' hlt => ?_, h.sound.app hs, by have := h.few; simp; omega⟩
  by_cases e : i' = i
  · subst e
    exact ⟨fun hh => (by rw [hp] at hh; cases hh), fun _ _ => Cov.last ht⟩
  · have := h.cov i' h' (by omega)
    exact ⟨fun hh => (this.1 hh).left, fun h1 h2 => (this.2 h1 h2).left⟩
theorem sp_skip {ws : List (List Bool)} {t : List Bool} {N i : Nat} {R : List Rc} (h : Sp ws t N i R) (hi : i < ws.length) (hp : ws[i].isPrefixOf t = false) (hq : t.isPrefixOf ws[i] = false) : Sp ws t N (i + 1) R := by
  refine ⟨fun i' h' hlt => ?_, h.sound, by have := h.few; omega⟩
  by_cases e : i' = i
  · subst e
    exact ⟨fun hh => (by rw [hp] at hh; cases hh), fun _ h2 => (by rw [hq] at h2; cases h2)⟩
  · exact h.cov i' h' (by omega)

end Go.Proofs.Ytlhkifbjbibfoaa
