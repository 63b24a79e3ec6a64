/-
  The lengths beside the forest, in plain mathematics: each joining makes the words of its symbols one bit longer.
-/
import Derived.Test.YtakggfogoobdnaaHuf
namespace Go.Proofs.Ytakggfogoobdnaa

/-- One more for each of these symbols. -/
def bmp (l : List Nat) (ss : List Nat) : List Nat := ss.foldl (fun l s => l.set s (l.getD s 0 + 1)) l

theorem bmp_len (ss : List Nat) : ∀ l : List Nat, (bmp l ss).length = l.length := by
  induction ss with
  | nil => intro l; rfl
  | cons s ss ih => intro l; show (bmp (l.set s (l.getD s 0 + 1)) ss).length = _; rw [ih]; simp

theorem bmp_take (l ss : List Nat) (k : Nat) (hk : k < ss.length) : bmp l (ss.take (k + 1)) = (bmp l (ss.take k)).set ss[k] ((bmp l (ss.take k)).getD ss[k] 0 + 1) := by
  rw [List.take_succ_eq_append_getElem hk]
  unfold bmp
  rw [List.foldl_append]
  rfl

theorem bmp_at (ss : List Nat) : ∀ (l : List Nat) (i : Nat), i < l.length → (bmp l ss).getD i 0 = l.getD i 0 + ss.count i := by
  induction ss with
  | nil => intro l i _; simp [bmp]
  | cons s ss ih =>
    intro l i hi
    show (bmp (l.set s (l.getD s 0 + 1)) ss).getD i 0 = _
    rw [ih _ i (by simpa using hi)]
    by_cases h : s = i
    · subst h
      simp [List.getD_eq_getElem?_getD, hi]
      omega
    · simp [List.getD_eq_getElem?_getD, List.getElem?_set_ne h, h]

/-- The lengths tell how deep each symbol hangs. -/
def Dep (l : List Nat) (F : List (List (Nat × Nat))) : Prop := ∀ S ∈ F, ∀ p ∈ S, l.getD p.1 0 = p.2

theorem dep_start (n : Nat) : Dep (List.replicate n 0) ((List.range n).map fun i => [(i, 0)]) := by
  intro S hS p hp
  obtain ⟨i, hi, rfl⟩ := List.mem_map.1 hS
  simp at hp
  subst hp
  simp at hi
  simp [List.getD_eq_getElem?_getD, hi]

theorem Forest.lt {w : Nat → Nat} {n : Nat} {F : List (List (Nat × Nat))} (h : Forest w n F) {S : List (Nat × Nat)} (hS : S ∈ F) {p : Nat × Nat} (hp : p ∈ S) : p.1 < n := by
  have : p.1 ∈ F.flatten.map (·.1) := List.mem_map.2 ⟨p, List.mem_flatten.2 ⟨S, hS, hp⟩, rfl⟩
  simpa using h.all.mem_iff.1 this

theorem dep_join {w : Nat → Nat} {n : Nat} {l : List Nat} {S T : List (Nat × Nat)} {F : List (List (Nat × Nat))} (h : Forest w n (S :: T :: F)) (hl : l.length = n) (hd : Dep l (S :: T :: F)) :
    Dep (bmp l ((S ++ T).map (·.1))) (F ++ [up (S ++ T)]) := by
  have hnd : (((S ++ T) ++ F.flatten).map (·.1)).Nodup := by
    have e : (S ++ T) ++ F.flatten = (S :: T :: F).flatten := by simp
    rw [e]
    exact h.all.nodup_iff.2 List.nodup_range
  rw [List.map_append, List.nodup_append] at hnd
  obtain ⟨n1, _, n3⟩ := hnd
  intro U hU p hp
  rcases List.mem_append.1 hU with hU | hU
  · have hlt : p.1 < l.length := by rw [hl]; exact h.lt (by simp [hU]) hp
    rw [bmp_at _ _ _ hlt, hd U (by simp [hU]) p hp]
    have : p.1 ∉ (S ++ T).map (·.1) := fun hm => n3 _ hm _ (List.mem_map.2 ⟨p, List.mem_flatten.2 ⟨U, hU, hp⟩, rfl⟩) rfl
    rw [List.count_eq_zero_of_not_mem this]
    rfl
  · simp only [List.mem_singleton] at hU
    subst hU
    obtain ⟨q, hq, rfl⟩ := List.mem_map.1 hp
    simp only
    have hmem : q.1 ∈ (S ++ T).map (·.1) := List.mem_map.2 ⟨q, hq, rfl⟩
    have hq' : ∃ U ∈ S :: T :: F, q ∈ U := by
      rcases List.mem_append.1 hq with hq | hq
      · exact ⟨S, by simp, hq⟩
      · exact ⟨T, by simp, hq⟩
    obtain ⟨U, hU, hqU⟩ := hq'
    have hlt : q.1 < l.length := by rw [hl]; exact h.lt hU hqU
    rw [bmp_at _ _ _ hlt, hd U hU q hqU, List.Nodup.count n1, if_pos hmem]

/-- The symbols with their lengths. -/
def pr (n : Nat) (l : List Nat) : List (Nat × Nat) := (List.range n).map fun i => (i, l.getD i 0)

/-- Lengths that cost least. -/
structure Best (w : Nat → Nat) (n : Nat) (l : List Nat) : Prop where
  len : l.length = n
  lb : LB ((List.range n).map w) (tc w (pr n l))
  tree : n = 0 ∨ Tree (pr n l) ∨ ∃ S, Tree S ∧ S.Perm (pr n l)

theorem forest_best {w : Nat → Nat} {n : Nat} {l : List Nat} {F : List (List (Nat × Nat))} (h : Forest w n F) (hl : l.length = n) (hd : Dep l F) (h1 : F.length ≤ 1) : Best w n l := by
  have hp : F.flatten.Perm (pr n l) := by
    have e : F.flatten = (F.flatten.map (·.1)).map (fun i => (i, l.getD i 0)) := by
      rw [List.map_map]
      have : ∀ p ∈ F.flatten, ((fun i => (i, l.getD i 0)) ∘ (·.1)) p = p := by
        intro p hp
        obtain ⟨S, hS, hpS⟩ := List.mem_flatten.1 hp
        show (p.1, l.getD p.1 0) = p
        rw [hd S hS p hpS]
      rw [List.map_congr_left this]
      simp
    rw [e]
    exact h.all.map _
  refine ⟨hl, ?_, ?_⟩
  · rw [← tc_perm hp]; exact h.done
  · match F, h1 with
    | [], _ =>
      left
      have := h.all.length_eq
      simpa using this.symm
    | [S], _ =>
      right; right
      exact ⟨S, h.tree S (by simp), by simpa using hp⟩

theorem Best.lt {w : Nat → Nat} {n : Nat} {l : List Nat} (h : Best w n l) : ∀ d ∈ l, d < n := by
  intro d hd
  obtain ⟨i, hi, rfl⟩ := List.mem_iff_getElem.1 hd
  have hin : i < n := by rw [← h.len]; exact hi
  have hm : (i, l.getD i 0) ∈ pr n l := List.mem_map.2 ⟨i, by simpa using hin, rfl⟩
  have hg : l.getD i 0 = l[i] := by simp [List.getD_eq_getElem?_getD, hi]
  have hpl : (pr n l).length = n := by simp [pr]
  rcases h.tree with h0 | h0 | ⟨S, hS, hp⟩
  · omega
  · have := h0.deep _ hm
    rw [hpl] at this
    simp only [hg] at this
    exact this
  · have := hS.deep _ (hp.mem_iff.2 hm)
    rw [hp.length_eq, hpl] at this
    simp only [hg] at this
    exact this

theorem Best.kraft {w : Nat → Nat} {n : Nat} {l : List Nat} (h : Best w n l) (h8 : n ≤ 8) : pk (pr n l) ≤ 256 := by
  have hb : ∀ p ∈ pr n l, p.2 ≤ 8 := by
    intro p hp
    obtain ⟨i, hi, rfl⟩ := List.mem_map.1 hp
    have hin : i < l.length := by rw [h.len]; simpa using hi
    have hg : l.getD i 0 = l[i] := by simp [List.getD_eq_getElem?_getD, hin]
    have := h.lt _ (List.getElem_mem hin)
    simp only [hg]
    omega
  rcases h.tree with h0 | h0 | ⟨S, hS, hp⟩
  · subst h0; simp [pr, pk]
  · rw [h0.kraft hb]; exact Nat.le_refl _
  · rw [← pk_perm hp, hS.kraft (fun p hp' => hb p (hp.mem_iff.1 hp'))]; exact Nat.le_refl _

theorem Best.fine {w : Nat → Nat} {n : Nat} {l : List Nat} (h : Best w n l) (h8 : n ≤ 8) : Fine (wp w (pr n l)) := by
  refine ⟨?_, by rw [pk_wp]; exact h.kraft h8⟩
  intro p hp
  obtain ⟨q, hq, rfl⟩ := List.mem_map.1 hp
  obtain ⟨i, hi, rfl⟩ := List.mem_map.1 hq
  have hin : i < l.length := by rw [h.len]; simpa using hi
  have hg : l.getD i 0 = l[i] := by simp [List.getD_eq_getElem?_getD, hin]
  have := h.lt _ (List.getElem_mem hin)
  simp only [hg]
  omega

theorem pr_fst (w : Nat → Nat) (n : Nat) (l : List Nat) : (wp w (pr n l)).map (·.1) = (List.range n).map w := by
  rw [wp_fst]
  congr 1
  simp [pr, Function.comp_def]

end Go.Proofs.Ytakggfogoobdnaa
