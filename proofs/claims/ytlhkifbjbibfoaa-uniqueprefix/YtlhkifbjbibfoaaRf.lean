/-
  The other search, by tails alone, round by round. Nothing here speaks of the program.
-/
import Derived.Test.YtlhkifbjbibfoaaWays
namespace Go.Proofs.Ytlhkifbjbibfoaa
open Go.RowKit

/-- What is left when a word comes behind a tail. -/
def stp (w t : List Bool) : Option (List Bool) := if w.isPrefixOf t then some (t.drop w.length) else if t.isPrefixOf w then some (w.drop t.length) else none

def Snd (ws : List (List Bool)) (T : List (List Bool)) : Prop := ∀ t ∈ T, t.length ≤ 8 ∧ ∃ b a, Good ws b a t

theorem Snd.app {ws T : List (List Bool)} {t : List Bool} (h : Snd ws T) (h8 : t.length ≤ 8) (hg : ∃ b a, Good ws b a t) : Snd ws (T ++ [t]) := fun s hs => by
  rcases List.mem_append.1 hs with hs | hs
  · exact h s hs
  · simp only [List.mem_singleton] at hs
    subst hs
    exact ⟨h8, hg⟩

structure Rs (ws : List (List Bool)) (i j : Nat) (T : List (List Bool)) : Prop where
  cov : ∀ i' j' (hi : i' < ws.length) (hj : j' < ws.length), (i' < i ∨ (i' = i ∧ j' < j)) → i' ≠ j' → ws[i'].isPrefixOf ws[j'] = true → ws[j'].drop ws[i'].length ∈ T
  snd : Snd ws T
  few : T.length ≤ 8 * i + j

theorem rs_zero (ws : List (List Bool)) : Rs ws 0 0 [] := ⟨fun i' j' _ _ h => by omega, fun t ht => (by cases ht), by simp⟩
theorem rs_next {ws T : List (List Bool)} {i : Nat} (h : Rs ws i ws.length T) (h8 : ws.length ≤ 8) : Rs ws (i + 1) 0 T :=
  ⟨fun i' j' hi hj hh hne hp => h.cov i' j' hi hj (by omega) hne hp, h.snd, by have := h.few; omega⟩
theorem rs_skip {ws T : List (List Bool)} {i j : Nat} (h : Rs ws i j T) (hi : i < ws.length) (hj : j < ws.length) (hno : i = j ∨ ws[i].isPrefixOf ws[j] = false) : Rs ws i (j + 1) T := by
  refine ⟨fun i' j' hi' hj' hh hne hp => ?_, h.snd, by have := h.few; omega⟩
  by_cases e : i' = i ∧ j' = j
  · obtain ⟨rfl, rfl⟩ := e
    rcases hno with hno | hno
    · exact absurd hno hne
    · rw [hno] at hp; cases hp
  · exact h.cov i' j' hi' hj' (by omega) hne hp
theorem rs_step {ws T : List (List Bool)} {i j : Nat} (h : Rs ws i j T) (hi : i < ws.length) (hj : j < ws.length) (hne : i ≠ j) (hp : ws[i].isPrefixOf ws[j] = true) (h8 : ws[j].length ≤ 8) : Rs ws i (j + 1) (T ++ [ws[j].drop ws[i].length]) := by
  refine ⟨fun i' j' hi' hj' hh hne' hp' => ?_, h.snd.app (by simp; omega) ⟨_, _, good_start hi hj hne hp⟩, by have := h.few; simp; omega⟩
  by_cases e : i' = i ∧ j' = j
  · obtain ⟨rfl, rfl⟩ := e
    simp
  · exact List.mem_append_left _ (h.cov i' j' hi' hj' (by omega) hne' hp')

structure Rm (ws T : List (List Bool)) (k j : Nat) : Prop where
  start : ∀ i' j' (hi : i' < ws.length) (hj : j' < ws.length), i' ≠ j' → ws[i'].isPrefixOf ws[j'] = true → ws[j'].drop ws[i'].length ∈ T
  snd : Snd ws T
  split : ∃ T0 K, T = T0 ++ K ∧ T0.length ≤ 64 ∧ K.Nodup
  done : ∀ k' (h : k' < T.length), k' < k → T[k'] ≠ [] ∧ ∀ i' (hi : i' < ws.length) u, stp ws[i'] T[k'] = some u → u ∈ T
  now : ∀ (h : k < T.length) i' (hi : i' < ws.length) u, i' < j → stp ws[i'] T[k] = some u → u ∈ T

theorem Rm.few {ws T : List (List Bool)} {k j : Nat} (h : Rm ws T k j) : T.length ≤ 576 := by
  obtain ⟨T0, K, rfl, h0, hn⟩ := h.split
  have := tails_few hn (fun t ht => (h.snd t (List.mem_append_right _ ht)).1)
  rw [List.length_append]
  omega

theorem rm_start {ws T : List (List Bool)} (h : Rs ws ws.length 0 T) (h8 : ws.length ≤ 8) : Rm ws T 0 0 :=
  ⟨fun i' j' hi hj hne hp => h.cov i' j' hi hj (Or.inl hi) hne hp, h.snd, ⟨T, [], by simp, by have := h.few; omega, List.Pairwise.nil⟩, fun _ _ hk => absurd hk (Nat.not_lt_zero _), fun _ _ _ _ hk => absurd hk (Nat.not_lt_zero _)⟩

theorem rm_old {ws T : List (List Bool)} {k j : Nat} (h : Rm ws T k j) (hk : k < T.length) (hj : j < ws.length) (ho : ∀ u, stp ws[j] T[k] = some u → u ∈ T) : Rm ws T k (j + 1) :=
  { h with
    now := fun h' i' hi u hlt hs => by
      by_cases e : i' = j
      · subst e; exact ho u hs
      · exact h.now h' i' hi u (by omega) hs }

theorem stp_good {ws : List (List Bool)} {b a : List Int} {t u : List Bool} {j : Nat} (h : Good ws b a t) (ht : t ≠ []) (h8 : t.length ≤ 8) (hj : j < ws.length) (hw8 : ws[j].length ≤ 8) (hs : stp ws[j] t = some u) : u.length ≤ 8 ∧ ∃ b a, Good ws b a u := by
  unfold stp at hs
  split at hs
  · rename_i hp
    injection hs with hs
    subst hs
    exact ⟨by simp; omega, _, _, good_behind h ht hj hp⟩
  · split at hs
    · rename_i hp
      injection hs with hs
      subst hs
      exact ⟨by simp; omega, _, _, good_ahead h ht hj hp⟩
    · cases hs

theorem rm_new {ws T : List (List Bool)} {k j : Nat} {u : List Bool} (h : Rm ws T k j) (hk : k < T.length) (hj : j < ws.length) (hw8 : ws[j].length ≤ 8) (hne : T[k] ≠ []) (hs : stp ws[j] T[k] = some u) (hu : u ∉ T) : Rm ws (T ++ [u]) k (j + 1) := by
  obtain ⟨h8, b, a, hg⟩ := h.snd _ (List.getElem_mem hk)
  obtain ⟨hu8, hug⟩ := stp_good hg hne h8 hj hw8 hs
  refine ⟨fun i' j' hi hj hne hp => List.mem_append_left _ (h.start i' j' hi hj hne hp), h.snd.app hu8 hug, ?_, ?_, ?_⟩
  · obtain ⟨T0, K, rfl, h0, hn⟩ := h.split
    refine ⟨T0, K ++ [u], by simp, h0, List.nodup_append.2 ⟨hn, by simp, fun x hx y hy e => ?_⟩⟩
    simp only [List.mem_singleton] at hy
    subst hy e
    exact hu (List.mem_append_right _ hx)
  · intro k' hk' hlt
    rw [List.getElem_append_left (by omega)]
    have := h.done k' (by omega) hlt
    exact ⟨this.1, fun i' hi v hv => List.mem_append_left _ (this.2 i' hi v hv)⟩
  · intro hk' i' hi v hlt hv
    rw [List.getElem_append_left hk] at hv
    by_cases e : i' = j
    · subst e
      rw [hs] at hv
      injection hv with hv
      subst hv
      simp
    · exact List.mem_append_left _ (h.now hk i' hi v (by omega) hv)

theorem rm_next {ws T : List (List Bool)} {k : Nat} (h : Rm ws T k ws.length) (hk : k < T.length) (hne : T[k] ≠ []) : Rm ws T (k + 1) 0 :=
  { h with
    done := fun k' hk' hlt => by
      by_cases e : k' = k
      · subst e
        exact ⟨hne, fun i' hi u hu => h.now hk i' hi u hi hu⟩
      · exact h.done k' hk' (by omega)
    now := fun _ _ _ _ hlt => absurd hlt (Nat.not_lt_zero _) }

theorem rm_end {ws T : List (List Bool)} {k : Nat} (h : Rm ws T k 0) (hk : k = T.length) (hb : ∀ i (hi : i < ws.length), ws[i] ≠ []) : Uniq ws := by
  have hd : ∀ t ∈ T, t ≠ [] ∧ ∀ i' (hi : i' < ws.length) u, stp ws[i'] t = some u → u ∈ T := fun t ht => by
    obtain ⟨k', hk', rfl⟩ := List.mem_iff_getElem.1 ht
    exact h.done k' hk' (by omega)
  refine Closed.uniq (S := (· ∈ T)) ⟨fun hc => (hd _ hc).1 rfl, hb, h.start, ?_, ?_⟩
  · intro t ht i' hi hp
    exact (hd t ht).2 i' hi _ (by simp [stp, hp])
  · intro t ht i' hi hp hq
    exact (hd t ht).2 i' hi _ (by simp [stp, hp, hq])

theorem rm_empty {ws T : List (List Bool)} {k j : Nat} (h : Rm ws T k j) (hk : k < T.length) (he : T[k] = []) : ¬ Uniq ws := by
  obtain ⟨_, b, a, hg⟩ := h.snd _ (List.getElem_mem hk)
  rw [he] at hg
  exact hg.not

end Go.Proofs.Ytlhkifbjbibfoaa
