/-
  Codes of which no two texts are alike: how they are told by tails, what they take up, turned round. Nothing here speaks of the program.
-/
import Derived.Test.YtlhkifbjbibfoaaLens
namespace Go.Proofs.Ytlhkifbjbibfoaa
open Go.RowKit

/-- The bits of a text. -/
def wrt (ws : List (List Bool)) (z : List Int) : List Bool := z.flatMap (fun s => ws.getD s.toNat [])

/-- Each symbol has a word. -/
def Valid (n : Nat) (z : List Int) : Prop := ∀ s ∈ z, 0 ≤ s ∧ s < (n : Int)

/-- No two texts are alike. -/
def Uniq (ws : List (List Bool)) : Prop := ∀ a b, Valid ws.length a → Valid ws.length b → wrt ws a = wrt ws b → a = b

theorem wrt_nil (ws : List (List Bool)) : wrt ws [] = [] := rfl
theorem wrt_cons (ws : List (List Bool)) (s : Int) (z : List Int) : wrt ws (s :: z) = ws.getD s.toNat [] ++ wrt ws z := by simp [wrt]
theorem wrt_append (ws : List (List Bool)) (y z : List Int) : wrt ws (y ++ z) = wrt ws y ++ wrt ws z := by simp [wrt]
theorem wrt_one (ws : List (List Bool)) (i : Nat) (h : i < ws.length) : wrt ws [(i : Int)] = ws[i] := by
  simp [wrt, List.getD_eq_getElem?_getD, h]

theorem valid_nil (n : Nat) : Valid n [] := fun s hs => by cases hs
theorem valid_cons {n : Nat} {s : Int} {z : List Int} : Valid n (s :: z) ↔ (0 ≤ s ∧ s < (n : Int)) ∧ Valid n z := by
  simp [Valid]
theorem valid_append {n : Nat} {y z : List Int} : Valid n (y ++ z) ↔ Valid n y ∧ Valid n z := by
  simp only [Valid, List.mem_append]
  exact ⟨fun h => ⟨fun s hs => h s (Or.inl hs), fun s hs => h s (Or.inr hs)⟩, fun h s hs => hs.elim (h.1 s) (h.2 s)⟩
theorem valid_one {n i : Nat} (h : i < n) : Valid n [(i : Int)] := by
  intro s hs
  simp at hs
  omega

theorem valid_head {n : Nat} {s : Int} {z : List Int} (h : Valid n (s :: z)) : ∃ i : Nat, s = i ∧ i < n ∧ Valid n z := by
  have h' := valid_cons.1 h
  exact ⟨s.toNat, by omega, by omega, h'.2⟩

theorem getD_nat (ws : List (List Bool)) (i : Nat) (h : i < ws.length) : ws.getD (i : Int).toNat [] = ws[i] := by
  simp [List.getD_eq_getElem?_getD, h]

theorem prefix_split {x y u v : List Bool} (h : x ++ u = y ++ v) : (x.isPrefixOf y = true ∧ u = y.drop x.length ++ v) ∨ (x.isPrefixOf y = false ∧ y.isPrefixOf x = true ∧ v = x.drop y.length ++ u) := by
  rcases Bool.eq_false_or_eq_true (x.isPrefixOf y) with hb | hb
  · refine Or.inl ⟨hb, ?_⟩
    obtain ⟨r, rfl⟩ := List.isPrefixOf_iff_prefix.1 hb
    rw [List.append_assoc] at h
    rw [List.append_cancel_left h]
    simp
  · refine Or.inr ⟨hb, ?_⟩
    rcases List.append_eq_append_iff.1 h with ⟨r, hr, hv⟩ | ⟨r, hr, hv⟩
    · exfalso
      rw [hr, List.isPrefixOf_iff_prefix.2 ⟨r, rfl⟩] at hb
      cases hb
    · rw [hr]
      exact ⟨List.isPrefixOf_iff_prefix.2 ⟨r, rfl⟩, by rw [hv]; simp⟩

/-- Two texts that are not the same, the one ahead by a tail. -/
def Good (ws : List (List Bool)) (b a : List Int) (t : List Bool) : Prop :=
  Valid ws.length b ∧ Valid ws.length a ∧ wrt ws a = wrt ws b ++ t ∧ ((b = [] ∧ t = [] ∧ a ≠ []) ∨ ∃ s s' b' a', b = s :: b' ∧ a = s' :: a' ∧ s ≠ s')

theorem Good.ne {ws : List (List Bool)} {b a : List Int} {t : List Bool} (h : Good ws b a t) : b ≠ a := by
  obtain ⟨_, _, _, h⟩ := h
  rcases h with ⟨rfl, _, h⟩ | ⟨s, s', b', a', rfl, rfl, h⟩
  · exact fun e => h e.symm
  · intro e; injection e with e1 _; exact h e1

theorem Good.not {ws : List (List Bool)} {b a : List Int} (h : Good ws b a []) : ¬ Uniq ws := fun hu => h.ne (hu b a h.1 h.2.1 (by rw [h.2.2.1]; simp))

theorem good_start {ws : List (List Bool)} {i j : Nat} (hi : i < ws.length) (hj : j < ws.length) (hij : i ≠ j) (h : ws[i].isPrefixOf ws[j] = true) :
    Good ws [(i : Int)] [(j : Int)] (ws[j].drop ws[i].length) := by
  refine ⟨valid_one hi, valid_one hj, ?_, Or.inr ⟨_, _, [], [], rfl, rfl, by omega⟩⟩
  rw [wrt_one ws i hi, wrt_one ws j hj]
  obtain ⟨r, hr⟩ := List.isPrefixOf_iff_prefix.1 h
  rw [← hr]
  simp

theorem good_bare {ws : List (List Bool)} {i : Nat} (hi : i < ws.length) (h : ws[i] = []) : Good ws [] [(i : Int)] [] := by
  refine ⟨valid_nil _, valid_one hi, ?_, Or.inl ⟨rfl, rfl, by simp⟩⟩
  rw [wrt_one ws i hi, h, wrt_nil]
  rfl

theorem good_behind {ws : List (List Bool)} {b a : List Int} {t : List Bool} (h : Good ws b a t) (ht : t ≠ []) {i : Nat} (hi : i < ws.length) (hp : ws[i].isPrefixOf t = true) :
    Good ws (b ++ [(i : Int)]) a (t.drop ws[i].length) := by
  obtain ⟨h1, h2, h3, h4⟩ := h
  refine ⟨valid_append.2 ⟨h1, valid_one hi⟩, h2, ?_, Or.inr ?_⟩
  · rw [wrt_append, wrt_one ws i hi, h3]
    obtain ⟨r, hr⟩ := List.isPrefixOf_iff_prefix.1 hp
    rw [← hr]
    simp
  · rcases h4 with ⟨_, h, _⟩ | ⟨s, s', b', a', rfl, rfl, h⟩
    · exact absurd h ht
    · exact ⟨s, s', b' ++ [(i : Int)], a', rfl, rfl, h⟩

theorem good_ahead {ws : List (List Bool)} {b a : List Int} {t : List Bool} (h : Good ws b a t) (ht : t ≠ []) {i : Nat} (hi : i < ws.length) (hp : t.isPrefixOf ws[i] = true) :
    Good ws a (b ++ [(i : Int)]) (ws[i].drop t.length) := by
  obtain ⟨h1, h2, h3, h4⟩ := h
  refine ⟨h2, valid_append.2 ⟨h1, valid_one hi⟩, ?_, Or.inr ?_⟩
  · rw [wrt_append, wrt_one ws i hi, h3]
    obtain ⟨r, hr⟩ := List.isPrefixOf_iff_prefix.1 hp
    rw [← hr]
    simp
  · rcases h4 with ⟨_, h, _⟩ | ⟨s, s', b', a', rfl, rfl, h⟩
    · exact absurd h ht
    · exact ⟨s', s, a', b' ++ [(i : Int)], rfl, rfl, fun e => h e.symm⟩

/-- Tails that are closed under steps. -/
structure Closed (ws : List (List Bool)) (S : List Bool → Prop) : Prop where
  some : ¬ S []
  bare : ∀ i (h : i < ws.length), ws[i] ≠ []
  start : ∀ i j (hi : i < ws.length) (hj : j < ws.length), i ≠ j → ws[i].isPrefixOf ws[j] = true → S (ws[j].drop ws[i].length)
  behind : ∀ t, S t → ∀ i (hi : i < ws.length), ws[i].isPrefixOf t = true → S (t.drop ws[i].length)
  ahead : ∀ t, S t → ∀ i (hi : i < ws.length), ws[i].isPrefixOf t = false → t.isPrefixOf ws[i] = true → S (ws[i].drop t.length)

theorem Closed.no {ws : List (List Bool)} {S : List Bool → Prop} (h : Closed ws S) : ∀ (n : Nat) (t : List Bool) (x y : List Int), x.length + y.length ≤ n → S t → Valid ws.length x → Valid ws.length y → t ++ wrt ws x ≠ wrt ws y
  | n, t, x, [], _, ht, _, _, e => by
    rw [wrt_nil] at e
    have : t = [] := (List.append_eq_nil_iff.1 e).1
    subst this
    exact h.some ht
  | 0, t, x, s :: y, hn, _, _, _, _ => by simp at hn
  | n + 1, t, x, s :: y, hn, ht, hx, hy, e => by
    obtain ⟨i, rfl, hi, hy'⟩ := valid_head hy
    rw [wrt_cons, getD_nat ws i hi] at e
    simp only [List.length_cons] at hn
    rcases prefix_split e.symm with ⟨hp, he⟩ | ⟨hp, hq, he⟩
    · exact Closed.no h n _ x y (by omega) (h.behind t ht i hi hp) hx hy' he.symm
    · exact Closed.no h n _ y x (by omega) (h.ahead t ht i hi hp hq) hy' hx he.symm

theorem Closed.uniq {ws : List (List Bool)} {S : List Bool → Prop} (h : Closed ws S) : Uniq ws
  | [], [], _, _, _ => rfl
  | [], s :: b, _, hb, e => by
    obtain ⟨i, rfl, hi, _⟩ := valid_head hb
    rw [wrt_nil, wrt_cons, getD_nat ws i hi] at e
    exact absurd (List.append_eq_nil_iff.1 e.symm).1 (h.bare i hi)
  | s :: a, [], ha, _, e => by
    obtain ⟨i, rfl, hi, _⟩ := valid_head ha
    rw [wrt_nil, wrt_cons, getD_nat ws i hi] at e
    exact absurd (List.append_eq_nil_iff.1 e).1 (h.bare i hi)
  | s :: a, s' :: b, ha, hb, e => by
    obtain ⟨i, rfl, hi, ha'⟩ := valid_head ha
    obtain ⟨j, rfl, hj, hb'⟩ := valid_head hb
    rw [wrt_cons, getD_nat ws i hi, wrt_cons, getD_nat ws j hj] at e
    by_cases hij : i = j
    · subst hij
      rw [Closed.uniq h a b ha' hb' (List.append_cancel_left e)]
    · exfalso
      rcases prefix_split e with ⟨hp, he⟩ | ⟨hp, hq, he⟩
      · exact h.no _ _ b a (Nat.le_refl _) (h.start i j hi hj hij hp) hb' ha' he.symm
      · exact h.no _ _ a b (Nat.le_refl _) (h.start j i hj hi (fun e => hij e.symm) hq) ha' hb' he.symm

theorem uniq_bare {ws : List (List Bool)} {i : Nat} (hi : i < ws.length) (h : ws[i] = []) : ¬ Uniq ws := (good_bare hi h).not

/-- No word begins another one, and none is bare. -/
theorem uniq_free {ws : List (List Bool)} (hf : ∀ i j (hi : i < ws.length) (hj : j < ws.length), i ≠ j → ws[i].isPrefixOf ws[j] = false) (hb : ∀ i (h : i < ws.length), ws[i] ≠ []) : Uniq ws :=
  Closed.uniq (S := fun _ => False) ⟨id, hb, (fun i j hi hj hij h => by rw [hf i j hi hj hij] at h; cases h), (fun _ h => False.elim h), (fun _ h => False.elim h)⟩

/-- Turned round. -/
theorem wrt_back (ws : List (List Bool)) : ∀ z : List Int, wrt (ws.map List.reverse) z.reverse = (wrt ws z).reverse
  | [] => rfl
  | s :: z => by
    rw [List.reverse_cons, wrt_append, wrt_back ws z, wrt_cons ws, List.reverse_append]
    congr 1
    rw [wrt_cons, wrt_nil, List.append_nil]
    simp [List.getD_eq_getElem?_getD]
    cases ws[s.toNat]? <;> rfl

theorem uniq_back {ws : List (List Bool)} (h : Uniq (ws.map List.reverse)) : Uniq ws := fun a b ha hb e => by
  have := h a.reverse b.reverse (fun s hs => by simpa using ha s (List.mem_reverse.1 hs)) (fun s hs => by simpa using hb s (List.mem_reverse.1 hs)) (by rw [wrt_back, wrt_back, e])
  simpa using congrArg List.reverse this

theorem back_back (ws : List (List Bool)) : (ws.map List.reverse).map List.reverse = ws := by
  rw [List.map_map]
  conv => rhs; rw [← List.map_id ws]
  exact List.map_congr_left (fun l _ => List.reverse_reverse l)

theorem uniq_back_iff (ws : List (List Bool)) : Uniq (ws.map List.reverse) ↔ Uniq ws :=
  ⟨uniq_back, fun h => uniq_back (by rw [back_back]; exact h)⟩

/-- The number of a tail: a 1 ahead of the bits. -/
def numr : List Bool → Nat
  | [] => 1
  | b :: l => 2 * numr l + b.toNat
def num (t : List Bool) : Nat := numr t.reverse

theorem num_nil : num [] = 1 := rfl
theorem num_snoc (t : List Bool) (b : Bool) : num (t ++ [b]) = 2 * num t + b.toNat := by simp [num, numr]
theorem numr_pos : ∀ l, 1 ≤ numr l
  | [] => Nat.le_refl 1
  | b :: l => by have := numr_pos l; simp only [numr]; omega
theorem numr_lt : ∀ l, numr l < 2 ^ (l.length + 1)
  | [] => by decide
  | b :: l => by
    have := numr_lt l
    simp only [numr, List.length_cons]
    have h2 : b.toNat ≤ 1 := Bool.toNat_le b
    rw [Nat.pow_succ]
    omega
theorem numr_inj : ∀ l m, numr l = numr m → l = m
  | [], [], _ => rfl
  | [], b :: m, h => by have := numr_pos m; simp only [numr] at h; omega
  | b :: l, [], h => by have := numr_pos l; simp only [numr] at h; omega
  | b :: l, c :: m, h => by
    simp only [numr] at h
    have h1 : b.toNat ≤ 1 := Bool.toNat_le b
    have h2 : c.toNat ≤ 1 := Bool.toNat_le c
    rw [numr_inj l m (by omega)]
    have : b.toNat = c.toNat := by omega
    cases b <;> cases c <;> simp_all
theorem num_inj {l m : List Bool} (h : num l = num m) : l = m := by simpa using congrArg List.reverse (numr_inj _ _ h)
theorem num_lt {l : List Bool} {n : Nat} (h : l.length ≤ n) : num l < 2 ^ (n + 1) := by
  refine Nat.lt_of_lt_of_le (numr_lt l.reverse) ?_
  simp only [List.length_reverse]
  exact Nat.pow_le_pow_right (by decide) (by omega)

theorem pigeon : ∀ (n : Nat) (l : List Nat), l.Nodup → (∀ x ∈ l, x < n) → l.length ≤ n
  | 0, [], _, _ => Nat.le_refl 0
  | 0, x :: _, _, h => absurd (h x (List.mem_cons_self ..)) (Nat.not_lt_zero _)
  | n + 1, l, hd, h => by
    have h1 := pigeon n (l.erase n) (hd.erase n) (fun x hx => by
      have hx' := (hd.mem_erase_iff).1 hx
      have := h x hx'.2
      have := hx'.1
      omega)
    rw [List.length_erase] at h1
    split at h1 <;> omega

theorem tails_few {K : List (List Bool)} (hd : K.Nodup) (h8 : ∀ t ∈ K, t.length ≤ 8) : K.length ≤ 512 := by
  have := pigeon 512 (K.map num) (List.Pairwise.map num (fun a b hab e => hab (num_inj e)) hd) (fun x hx => by
    obtain ⟨t, ht, rfl⟩ := List.mem_map.1 hx
    exact num_lt (n := 8) (h8 t ht))
  simpa using this

end Go.Proofs.Ytlhkifbjbibfoaa
