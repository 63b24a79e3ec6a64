/-
  The search for two texts that are alike, round by round: races, the tails that were seen, and the map that tells them.
-/
import Derived.Test.YtlhkifbjbibfoaaSt
import Derived.Maps.OwnSet
namespace Go.Proofs.Ytlhkifbjbibfoaa
open Go.RowKit

/-- What the map says. -/
abbrev Seen := DataW Unit

def key (t : List Bool) : Lit := .int .i64 (num t : Int)

structure Tw (ws : List (List Bool)) (R : List Rc) (K : List (List Bool)) (D : Seen) (i : Nat) : Prop where
  le : i ≤ R.length
  sound : Sound ws (2 + K.length) R
  few : R.length ≤ 72 + 8 * K.length
  nodup : K.Nodup
  short : ∀ t ∈ K, t ≠ [] ∧ t.length ≤ 8
  isMap : Maps.IsMap D
  has : ∀ t : List Bool, t.length ≤ 8 → (Maps.has D (key t) = true ↔ t ∈ K)
  begun : ∀ i', i' < ws.length → At ws i' ws.length R
  done : ∀ k (hk : k < R.length), k < i → R[k].t.l ∈ K
  closed : ∀ t ∈ K, ∀ i' (h : i' < ws.length), (ws[i'].isPrefixOf t = true → Cov R (t.drop ws[i'].length)) ∧ (ws[i'].isPrefixOf t = false → t.isPrefixOf ws[i'] = true → Cov R (ws[i'].drop t.length))

theorem Tw.many {ws : List (List Bool)} {R : List Rc} {K : List (List Bool)} {D : Seen} {i : Nat} (h : Tw ws R K D i) : K.length ≤ 512 := tails_few h.nodup (fun t ht => (h.short t ht).2)

theorem key_lit (t : List Bool) : WideAt.IsKeyLit (key t) := by simp [key, WideAt.IsKeyLit]

theorem key_ne {s t : List Bool} (h : s ≠ t) : key s ≠ key t := fun e => h (num_inj (by simp only [key, Lit.int.injEq, true_and] at e; omega))

theorem tw_start {ws : List (List Bool)} {R : List Rc} (h8 : ws.length ≤ 8) (h : St ws ws.length R) : Tw ws R [] (.map []) 0 :=
  ⟨Nat.zero_le _, h.sound.mono (by simp), by have := h.few; simp; omega, List.Pairwise.nil, fun t ht => (by cases ht), (by simp [Maps.IsMap]), fun t _ => (by simp [Maps.has]), h.begun, fun k _ hk => absurd hk (Nat.not_lt_zero _), fun t ht => (by cases ht)⟩

theorem tw_known {ws : List (List Bool)} {R : List Rc} {K : List (List Bool)} {D : Seen} {i : Nat} (h : Tw ws R K D i) (hi : i < R.length) (hk : Maps.has D (key R[i].t.l) = true) : Tw ws R K D (i + 1) :=
  { h with
    le := hi
    done := fun k hk' hlt => by
      by_cases e : k = i
      · subst e
        exact (h.has _ (h.sound _ (List.getElem_mem hi)).2.1).1 hk
      · exact h.done k hk' (by omega) }

theorem tw_new {ws : List (List Bool)} {R R' : List Rc} {K : List (List Bool)} {D : Seen} {i : Nat} (h : Tw ws R K D i) (hi : i < R.length) (hk : Maps.has D (key R[i].t.l) = false) (hne : R[i].t.l ≠ []) (h8 : ws.length ≤ 8)
    (hs : Sp ws R[i].t.l (2 + K.length) ws.length R') (d : Seen) : Tw ws (R ++ R') (K ++ [R[i].t.l]) (D.put (key R[i].t.l) d) (i + 1) := by
  have ht8 := (h.sound _ (List.getElem_mem hi)).2.1
  have hnk : R[i].t.l ∉ K := fun hm => by rw [(h.has _ ht8).2 hm] at hk; cases hk
  refine ⟨by rw [List.length_append]; omega, ?_, ?_, ?_, ?_, ?_, ?_, fun i' hi' => (h.begun i' hi').left, ?_, ?_⟩
  · rw [List.length_append, List.length_singleton]
    exact (h.sound.mono (by omega)).app (hs.sound.mono (by omega))
  · have := h.few
    have := hs.few
    simp only [List.length_append, List.length_singleton]
    omega
  · refine List.nodup_append.2 ⟨h.nodup, by simp, ?_⟩
    intro a ha b hb e
    simp only [List.mem_singleton] at hb
    subst hb e
    exact hnk ha
  · intro t ht
    rcases List.mem_append.1 ht with ht | ht
    · exact h.short t ht
    · simp only [List.mem_singleton] at ht
      subst ht
      exact ⟨hne, ht8⟩
  · exact h.isMap.put _ _
  · intro t ht
    by_cases e : t = R[i].t.l
    · subst e
      simp [Maps.has_put_same h.isMap (key_lit _)]
    · rw [Maps.has_put_other (key_ne e), h.has t ht]
      simp [e]
  · intro k hk' hlt
    by_cases e : k = i
    · subst e
      rw [List.getElem_append_left hi]
      simp
    · rw [List.getElem_append_left (by omega)]
      exact List.mem_append_left _ (h.done k (by omega) (by omega))
  · intro t ht i' hi'
    rcases List.mem_append.1 ht with ht | ht
    · have := h.closed t ht i' hi'
      exact ⟨fun a => (this.1 a).left, fun a b => (this.2 a b).left⟩
    · simp only [List.mem_singleton] at ht
      subst ht
      have := hs.cov i' hi' hi'
      exact ⟨fun a => (this.1 a).right, fun a b => (this.2 a b).right⟩

theorem tw_end {ws : List (List Bool)} {R : List Rc} {K : List (List Bool)} {D : Seen} {i : Nat} (h : Tw ws R K D i) (hi : i = R.length) : Uniq ws := by
  have hK : ∀ t, Cov R t → t ∈ K := fun t ⟨r, hr, ht⟩ => by
    obtain ⟨k, hk, rfl⟩ := List.mem_iff_getElem.1 hr
    rw [← ht]
    exact h.done k hk (by omega)
  refine Closed.uniq (S := Cov R) ⟨fun hc => (h.short _ (hK _ hc)).1 rfl, fun i' hi' e => (h.short _ (hK _ ((h.begun i' hi' hi').1 e))).1 rfl, ?_, ?_, ?_⟩
  · intro i' j' hi' hj' hne hp
    exact (h.begun i' hi' hi').2 j' hj' hj' (fun e => hne e.symm) hp
  · intro t ht i' hi' hp
    exact (h.closed t (hK t ht) i' hi').1 hp
  · intro t ht i' hi' hp hq
    exact (h.closed t (hK t ht) i' hi').2 hp hq

theorem ownsMap_ext {w w' : World} {P : Program} {k : TypeId} {R : Value → Option (DataW Unit × List MemPlace)} {b n : Nat} {D : Seen} (h : w.ownsMap P k R b n D) (e : Ext w w') : w'.ownsMap P k R b n D := by
  obtain ⟨es, clock, hb, r⟩ := h
  exact ⟨es, clock, by rw [e.block b (lt_of_block hb)]; exact hb, r⟩

end Go.Proofs.Ytlhkifbjbibfoaa
