/-
  In plain mathematics: two numbers of a list changed, and all behind a place turned round: the next list.
-/
import Derived.Test.YtencpkmojjbjcaaPrm
namespace Go.Proofs.Ytencpkmojjbjcaa

theorem getD_set (l : List Int) (i k : Nat) (v : Int) (hi : i < l.length) : (l.set i v).getD k 0 = if k = i then v else l.getD k 0 := by
  rw [List.getD_eq_getElem?_getD, List.getD_eq_getElem?_getD, List.getElem?_set]
  by_cases h : i = k
  · subst h; simp [hi]
  · rw [if_neg h, if_neg (fun e => h e.symm)]

theorem ext_getD {a b : List Int} (hl : a.length = b.length) (h : ∀ k, k < a.length → a.getD k 0 = b.getD k 0) : a = b := by
  apply List.ext_getElem hl
  intro i h1 h2
  have := h i h1
  simpa [List.getD_eq_getElem?_getD, h1, h2] using this

/-- Places i and j changed. -/
def sw2 (z : List Int) (i j : Nat) : List Int := (z.set i (z.getD j 0)).set j (z.getD i 0)
theorem sw2_length (z : List Int) (i j : Nat) : (sw2 z i j).length = z.length := by simp [sw2]
theorem sw2_getD (z : List Int) (i j k : Nat) (hi : i < z.length) (hj : j < z.length) : (sw2 z i j).getD k 0 = if k = j then z.getD i 0 else if k = i then z.getD j 0 else z.getD k 0 := by
  unfold sw2
  rw [getD_set _ _ _ _ (by simpa using hj), getD_set _ _ _ _ hi]

/-- So far turned round: the places from i + 1 up to a, and those above b. -/
def Tn (y m : List Int) (n i a b : Nat) : Prop := m.length = n ∧ ∀ k, k < n → m.getD k 0 = if i < k ∧ (k < a ∨ b < k) then y.getD (i + n - k) 0 else y.getD k 0

theorem Tn.start {y : List Int} {n i : Nat} (h : y.length = n) : Tn y y n i (i + 1) (n - 1) := by
  refine ⟨h, fun k hk => ?_⟩
  rw [if_neg (by omega)]

theorem Tn.step {y m : List Int} {n i a b : Nat} (h : Tn y m n i a b) (hab : a < b) (hb : b < n) (ha : i < a) (hs : a + b = i + n) : Tn y (sw2 m a b) n i (a + 1) (b - 1) := by
  obtain ⟨h1, h2⟩ := h
  refine ⟨by rw [sw2_length, h1], fun k hk => ?_⟩
  rw [sw2_getD m a b k (by omega) (by omega)]
  by_cases e1 : k = b
  · subst e1
    rw [if_pos rfl, if_pos (by omega), h2 a (by omega), if_neg (by omega), show i + n - k = a by omega]
  · rw [if_neg e1]
    by_cases e2 : k = a
    · subst e2
      rw [if_pos rfl, if_pos (by omega), h2 b (by omega), if_neg (by omega), show i + n - k = b by omega]
    · rw [if_neg e2, h2 k hk]
      by_cases c : i < k ∧ (k < a ∨ b < k)
      · rw [if_pos c, if_pos (by omega)]
      · rw [if_neg c, if_neg (by omega)]

theorem next_getD (l : List Int) (i j k : Nat) (hij : i < j) (hj : j < l.length) (hk : k < l.length) :
    (l.take i ++ l.getD j 0 :: ((l.drop (i + 1)).set (j - i - 1) (l.getD i 0)).reverse).getD k 0 = if i < k then (sw2 l i j).getD (i + l.length - k) 0 else (sw2 l i j).getD k 0 := by
  have ht : (l.take i).length = i := by rw [List.length_take]; omega
  rw [sw2_getD l i j _ (by omega) hj, sw2_getD l i j _ (by omega) hj]
  rw [List.getD_eq_getElem?_getD, List.getElem?_append]
  by_cases h : i < k
  · rw [if_pos h, if_neg (by omega), ht, show k - i = (k - i - 1) + 1 by omega, List.getElem?_cons_succ, List.getElem?_reverse (by simp; omega), List.length_set, List.length_drop, List.getElem?_set, List.length_drop, List.getElem?_drop]
    by_cases e : i + l.length - k = j
    · rw [if_pos e, if_pos (by omega), if_pos (by omega)]; rfl
    · rw [if_neg e, if_neg (by omega : ¬ (i + l.length - k = i)), if_neg (by omega), List.getD_eq_getElem?_getD]
      congr 2
      omega
  · rw [if_neg h]
    by_cases e : k = i
    · subst e
      rw [if_neg (by omega), if_neg (by omega), if_pos rfl, ht, Nat.sub_self]; rfl
    · rw [if_pos (by omega), if_neg (by omega), if_neg e, List.getElem?_take, if_pos (by omega), List.getD_eq_getElem?_getD]

theorem Tn.fin {z m : List Int} {n i j a b : Nat} (h : Tn (sw2 z i j) m n i a b) (hz : z.length = n) (hij : i < j) (hj : j < n) (hs : a + b = i + n) (hab : b ≤ a) :
    m = z.take i ++ z.getD j 0 :: ((z.drop (i + 1)).set (j - i - 1) (z.getD i 0)).reverse := by
  obtain ⟨h1, h2⟩ := h
  have ht : (z.take i).length = i := by rw [List.length_take]; omega
  refine ext_getD ?_ (fun k hk => ?_)
  · rw [h1, List.length_append, ht, List.length_cons, List.length_reverse, List.length_set, List.length_drop]; omega
  · rw [next_getD z i j k hij (by omega) (by omega), h2 k (by omega), hz]
    by_cases c : i < k
    · rw [if_pos c]
      by_cases d : k < a ∨ b < k
      · rw [if_pos ⟨c, d⟩]
      · rw [if_neg (fun x => d x.2), show i + n - k = k by omega]
    · rw [if_neg c, if_neg (fun x => c x.1)]

/-- The next list of a list that has each number once. -/
theorem next_ok {z m : List Int} {n i j a b : Nat} (h : Tn (sw2 z i j) m n i a b) (hz : z.length = n) (hij : i < j) (hj : j < n) (hs : a + b = i + n) (hab : b ≤ a)
    (hd : ∀ k, i < k → k + 1 < n → z.getD (k + 1) 0 < z.getD k 0) (hxy : z.getD i 0 < z.getD j 0) (h2 : ∀ k, j < k → k < n → z.getD k 0 < z.getD i 0) :
    m.Perm z ∧ od m = od z + 1 := by
  rw [h.fin hz hij hj hs hab]
  exact next_places z i j hij (by omega) (fun k h1 h3 => hd k h1 (by omega)) hxy (fun k h1 h3 => h2 k h1 (by omega))

/-- Two of them are not the same. -/
theorem Each.ne {z : List Int} (h : Each z) {i j : Nat} (hij : i < j) (hj : j < z.length) : z.getD i 0 ≠ z.getD j 0 := by
  have hd := h.nodup
  unfold List.Nodup at hd
  rw [List.pairwise_iff_getElem] at hd
  have := hd i j (by omega) hj hij
  simpa [List.getD_eq_getElem?_getD, hj, (show i < z.length by omega)] using this

end Go.Proofs.Ytencpkmojjbjcaa
