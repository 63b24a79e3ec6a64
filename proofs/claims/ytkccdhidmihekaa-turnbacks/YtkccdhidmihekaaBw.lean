/-
  The turns of a text in order, in plain mathematics: what is ahead, byte by byte; the turns sorted; the last bytes; and the text found again of them.
-/
import Derived.Test.YtkccdhidmihekaaSrt
namespace Go.Proofs.Ytkccdhidmihekaa

/-- Is a text ahead of another one, byte by byte? -/
def ah : List Int → List Int → Bool
  | [], [] => false
  | [], _ :: _ => true
  | _ :: _, [] => false
  | a :: l, b :: m => if a = b then ah l m else decide (a < b)

theorem ah_irrefl : ∀ l, ah l l = false
  | [] => rfl
  | a :: l => by rw [ah, if_pos rfl]; exact ah_irrefl l

theorem ah_tri : ∀ l m, l = m ∨ ah l m = true ∨ ah m l = true
  | [], [] => .inl rfl
  | [], _ :: _ => .inr (.inl rfl)
  | _ :: _, [] => .inr (.inr rfl)
  | a :: l, b :: m => by
    by_cases h : a = b
    · subst h
      rcases ah_tri l m with h | h | h
      · exact .inl (by rw [h])
      · exact .inr (.inl (by rw [ah, if_pos rfl]; exact h))
      · exact .inr (.inr (by rw [ah, if_pos rfl]; exact h))
    · rcases Int.lt_or_gt_of_ne h with h1 | h1
      · exact .inr (.inl (by rw [ah, if_neg h]; simpa using h1))
      · exact .inr (.inr (by rw [ah, if_neg (Ne.symm h)]; simpa using h1))

theorem ah_trans : ∀ {l m k : List Int}, ah l m = true → ah m k = true → ah l k = true
  | [], [], _, h, _ => by simp [ah] at h
  | [], _ :: _, [], _, h => by simp [ah] at h
  | [], _ :: _, _ :: _, _, _ => rfl
  | _ :: _, [], _, h, _ => by simp [ah] at h
  | _ :: _, _ :: _, [], _, h => by simp [ah] at h
  | a :: l, b :: m, c :: k, h1, h2 => by
    rw [ah] at h1 h2 ⊢
    by_cases hab : a = b
    · subst hab
      rw [if_pos rfl] at h1
      by_cases hac : a = c
      · subst hac
        rw [if_pos rfl] at h2 ⊢
        exact ah_trans h1 h2
      · rw [if_neg hac] at h2 ⊢
        exact h2
    · rw [if_neg hab] at h1
      have h1' : a < b := by simpa using h1
      by_cases hbc : b = c
      · subst hbc
        rw [if_neg hab]
        exact h1
      · rw [if_neg hbc] at h2
        have h2' : b < c := by simpa using h2
        rw [if_neg (by omega)]
        simp
        omega

theorem ah_asymm {l m : List Int} (h : ah l m = true) : ah m l = false := by
  cases h2 : ah m l
  · rfl
  · have := ah_trans h h2
    rw [ah_irrefl] at this
    cases this

/-- No later. -/
def le (l m : List Int) : Bool := !ah m l
theorem le_refl (l : List Int) : le l l = true := by simp [le, ah_irrefl]
theorem le_of_ah {l m : List Int} (h : ah l m = true) : le l m = true := by simp [le, ah_asymm h]
theorem le_trans (l m k : List Int) (h1 : le l m = true) (h2 : le m k = true) : le l k = true := by
  rcases ah_tri l m with rfl | h | h
  · exact h2
  · rcases ah_tri m k with rfl | h3 | h3
    · exact h1
    · exact le_of_ah (ah_trans h h3)
    · simp [le, h3] at h2
  · simp [le, h] at h1
theorem le_total (l m : List Int) : (le l m || le m l) = true := by
  rcases ah_tri l m with rfl | h | h
  · simp [le_refl]
  · simp [le_of_ah h]
  · simp [le_of_ah h]
theorem le_anti {l m : List Int} (h1 : le l m = true) (h2 : le m l = true) : l = m := by
  rcases ah_tri l m with h | h | h
  · exact h
  · simp [le, h] at h2
  · simp [le, h] at h1

/-- Texts in order. -/
def Srtd (G : List (List Int)) : Prop := G.Pairwise (fun a b => le a b = true)
/-- .. put in order. -/
def srtL (G : List (List Int)) : List (List Int) := G.mergeSort le
theorem srtL_srtd (G : List (List Int)) : Srtd (srtL G) := List.pairwise_mergeSort le_trans le_total G
theorem srtL_perm (G : List (List Int)) : (srtL G).Perm G := List.mergeSort_perm G le
theorem srtd_unique {G H : List (List Int)} (h1 : Srtd G) (h2 : Srtd H) (hp : G.Perm H) : G = H :=
  hp.eq_of_pairwise (fun _ _ _ _ x y => le_anti x y) h1 h2
theorem srtL_eq {G H : List (List Int)} (h : Srtd H) (hp : H.Perm G) : H = srtL G := srtd_unique h (srtL_srtd G) (hp.trans (srtL_perm G).symm)

theorem ah_snoc {c : Int} : ∀ {u v : List Int}, u.length = v.length → ah (u ++ [c]) (v ++ [c]) = ah u v
  | [], [], _ => by simp [ah]
  | [], _ :: _, h => by simp at h
  | _ :: _, [], h => by simp at h
  | a :: u, b :: v, h => by
    rw [List.cons_append, List.cons_append, ah, ah, ah_snoc (by simpa using h)]

theorem ah_take : ∀ {u v : List Int} (k : Nat), u.length = v.length → ah (u.take k) (v.take k) = true → ah u v = true
  | [], [], k, _, h => by simp [ah] at h
  | [], _ :: _, _, h, _ => by simp at h
  | _ :: _, [], _, h, _ => by simp at h
  | a :: u, b :: v, 0, _, h => by simp [ah] at h
  | a :: u, b :: v, k + 1, hl, h => by
    rw [List.take_succ_cons, List.take_succ_cons, ah] at h
    rw [ah]
    by_cases hab : a = b
    · rw [if_pos hab] at h ⊢
      exact ah_take k (by simpa using hl) h
    · rw [if_neg hab] at h ⊢
      exact h
theorem le_take {u v : List Int} (k : Nat) (hl : u.length = v.length) (h : le u v = true) : le (u.take k) (v.take k) = true := by
  cases h2 : ah (v.take k) (u.take k)
  · simp [le, h2]
  · have := ah_take k hl.symm h2
    simp [le, this] at h

/-- What a text becomes by so many changes. -/
def rot (t : List Int) (i : Nat) : List Int := t.drop i ++ t.take i
theorem rot_zero (t : List Int) : rot t 0 = t := by simp [rot]
theorem rot_length {t : List Int} (i : Nat) : (rot t i).length = t.length := by
  unfold rot
  rw [List.length_append, List.length_drop, List.length_take]
  omega
theorem rot_all (t : List Int) : rot t t.length = t := by simp [rot]
theorem rot_at {t : List Int} {i j : Nat} (hi : i ≤ t.length) (hj : j < t.length) : (rot t i).getD j 0 = t.getD ((i + j) % t.length) 0 := by
  unfold rot
  simp only [List.getD_eq_getElem?_getD]
  congr 1
  by_cases h : j < t.length - i
  · rw [List.getElem?_append_left (by rw [List.length_drop]; exact h), List.getElem?_drop, Nat.mod_eq_of_lt (by omega)]
  · rw [List.getElem?_append_right (by rw [List.length_drop]; omega), List.length_drop, List.getElem?_take, if_pos (by omega)]
    have : (i + j) % t.length = j - (t.length - i) := by
      rw [show i + j = (j - (t.length - i)) + t.length by omega, Nat.add_mod_right, Nat.mod_eq_of_lt (by omega)]
    rw [this]

theorem ext_getD {u v : List Int} (hl : u.length = v.length) (h : ∀ j, j < u.length → u.getD j 0 = v.getD j 0) : u = v := by
  apply List.ext_getElem hl
  intro i h1 h2
  have := h i h1
  simpa [List.getD_eq_getElem?_getD, h1, h2] using this

/-- Changes of changes. -/
theorem rot_rot {t : List Int} {k i : Nat} (hk : k ≤ t.length) (hi : i ≤ t.length) (h0 : 0 < t.length) : rot (rot t k) i = rot t ((k + i) % t.length) := by
  have hlt := Nat.mod_lt (k + i) h0
  apply ext_getD
  · rw [rot_length, rot_length, rot_length]
  · intro j hj
    rw [rot_length, rot_length] at hj
    have h1 := rot_at (t := rot t k) (i := i) (j := j) (by rw [rot_length]; exact hi) (by rw [rot_length]; exact hj)
    rw [rot_length] at h1
    rw [h1, rot_at hk (Nat.mod_lt _ h0), rot_at (by omega) hj]
    congr 1
    rw [Nat.add_mod_mod, Nat.mod_add_mod, Nat.add_assoc]

/-- The last byte. -/
def lst (s : List Int) : Int := s.getD (s.length - 1) 0
theorem lst_rot {t : List Int} {i : Nat} (hi : i < t.length) : lst (rot t i) = t.getD ((i + t.length - 1) % t.length) 0 := by
  unfold lst
  rw [rot_length, rot_at (by omega) (by omega)]
  congr 2
  omega
theorem lst_snoc (u : List Int) (c : Int) : lst (u ++ [c]) = c := by simp [lst]
theorem split_last {s : List Int} (h : 0 < s.length) : s = s.dropLast ++ [lst s] := by
  have h1 : s ≠ [] := fun e => by rw [e] at h; simp at h
  have h2 : lst s = s.getLast h1 := by
    rw [List.getLast_eq_getElem]
    simp [lst, List.getD_eq_getElem?_getD, show s.length - 1 < s.length by omega]
  rw [h2]
  exact (List.dropLast_concat_getLast h1).symm

/-- The last byte comes to the front. -/
def rotr (s : List Int) : List Int := lst s :: s.dropLast
/-- The first byte comes to the end. -/
def rotl (s : List Int) : List Int := s.drop 1 ++ s.take 1
theorem rotl_rotr {s : List Int} (h : 0 < s.length) : rotl (rotr s) = s := by
  unfold rotl rotr
  simp only [List.drop_succ_cons, List.drop_zero, List.take_succ_cons, List.take_zero]
  exact (split_last h).symm
theorem rotr_length {s : List Int} (h : 0 < s.length) : (rotr s).length = s.length := by
  unfold rotr
  rw [List.length_cons, List.length_dropLast]
  omega
theorem rotr_rot {t : List Int} {i : Nat} (hi : i < t.length) : rotr (rot t i) = rot t ((i + t.length - 1) % t.length) := by
  have h0 : 0 < t.length := by omega
  have hlt := Nat.mod_lt (i + t.length - 1) h0
  have h1 := rot_rot (t := t) (k := (i + t.length - 1) % t.length) (i := 1) (by omega) (by omega) h0
  have e : ((i + t.length - 1) % t.length + 1) % t.length = i := by
    rw [Nat.mod_add_mod, show i + t.length - 1 + 1 = i + t.length by omega, Nat.add_mod_right, Nat.mod_eq_of_lt hi]
  rw [e] at h1
  have hl := rot_length (t := t) ((i + t.length - 1) % t.length)
  generalize rot t ((i + t.length - 1) % t.length) = s at *
  rw [← h1]
  cases s with
  | nil => simp at hl; omega
  | cons a s =>
    have : rot (a :: s) 1 = s ++ [a] := by simp [rot]
    rw [this]
    unfold rotr
    rw [lst_snoc, List.dropLast_concat]

/-- So many more, going round: each number once. -/
theorem perm_round {n k : Nat} : ((List.range n).map (fun i => (i + k) % n)).Perm (List.range n) := by
  rcases Nat.eq_zero_or_pos n with rfl | h0
  · simp
  have hnd : ((List.range n).map (fun i => (i + k) % n)).Nodup := by
    unfold List.Nodup
    rw [List.pairwise_map]
    have h1 : (List.range n).Pairwise (fun a b => a < b) := List.pairwise_lt_range
    refine h1.imp_of_mem ?_
    intro a b ha hb hab e
    rw [List.mem_range] at ha hb
    have h2 : (b + k - (a + k)) % n = 0 := by
      have h3 := Nat.sub_mod_eq_zero_of_mod_eq e.symm
      exact h3
    rw [show b + k - (a + k) = b - a by omega, Nat.mod_eq_of_lt (by omega)] at h2
    omega
  rw [List.perm_ext_iff_of_nodup hnd List.nodup_range]
  intro x
  rw [List.mem_range, List.mem_map]
  constructor
  · rintro ⟨i, _, rfl⟩
    exact Nat.mod_lt _ h0
  · intro hx
    refine ⟨(x + (n - k % n)) % n, List.mem_range.2 (Nat.mod_lt _ h0), ?_⟩
    have hk := Nat.mod_lt k h0
    rw [Nat.mod_add_mod, ← Nat.add_mod_mod, show x + (n - k % n) + k % n = x + n by omega, Nat.add_mod_right, Nat.mod_eq_of_lt hx]

/-- All turns, as they come. -/
def rots (t : List Int) : List (List Int) := (List.range t.length).map (rot t)
theorem rots_rot {t : List Int} {k : Nat} (hk : k ≤ t.length) (h0 : 0 < t.length) : (rots (rot t k)).Perm (rots t) := by
  unfold rots
  rw [rot_length]
  have e : (List.range t.length).map (rot (rot t k)) = ((List.range t.length).map (fun i => (i + k) % t.length)).map (rot t) := by
    rw [List.map_map]
    apply List.map_congr_left
    intro i hi
    rw [List.mem_range] at hi
    rw [rot_rot hk (by omega) h0, Nat.add_comm]
    rfl
  rw [e]
  exact perm_round.map _
theorem rots_rotr {t : List Int} (h0 : 0 < t.length) : ((rots t).map rotr).Perm (rots t) := by
  unfold rots
  have e : ((List.range t.length).map (rot t)).map rotr = ((List.range t.length).map (fun i => (i + (t.length - 1)) % t.length)).map (rot t) := by
    rw [List.map_map, List.map_map]
    apply List.map_congr_left
    intro i hi
    rw [List.mem_range] at hi
    show rotr (rot t i) = rot t ((i + (t.length - 1)) % t.length)
    rw [rotr_rot hi]
    congr 2
    omega
  rw [e]
  exact perm_round.map _

/-- The turns in order. -/
def RR (t : List Int) : List (List Int) := srtL (rots t)
theorem RR_length (t : List Int) : (RR t).length = t.length := by
  rw [RR, (srtL_perm _).length_eq]
  simp [rots]
theorem RR_each {t s : List Int} (h : s ∈ RR t) : ∃ i, i < t.length ∧ s = rot t i := by
  have := (srtL_perm _).subset h
  unfold rots at this
  obtain ⟨i, hi, rfl⟩ := List.mem_map.1 this
  exact ⟨i, List.mem_range.1 hi, rfl⟩
theorem RR_len {t s : List Int} (h : s ∈ RR t) : s.length = t.length := by
  obtain ⟨i, _, rfl⟩ := RR_each h
  exact rot_length i
theorem RR_rot {t : List Int} {k : Nat} (hk : k ≤ t.length) (h0 : 0 < t.length) : RR (rot t k) = RR t :=
  srtd_unique (srtL_srtd _) (srtL_srtd _) ((srtL_perm _).trans ((rots_rot hk h0).trans (srtL_perm _).symm))
theorem RR_rotr {t : List Int} (h0 : 0 < t.length) : ((RR t).map rotr).Perm (RR t) :=
  ((srtL_perm _).map rotr).trans ((rots_rotr h0).trans (srtL_perm _).symm)

/-- The last bytes of the turns in order. -/
def tl (t : List Int) : List Int := (RR t).map lst
theorem tl_length (t : List Int) : (tl t).length = t.length := by rw [tl, List.length_map, RR_length]

/-- As many of each as the text has. -/
theorem tl_perm (t : List Int) : (tl t).Perm t := by
  rcases Nat.eq_zero_or_pos t.length with h0 | h0
  · have : t = [] := List.eq_nil_of_length_eq_zero h0
    subst this
    have := tl_length []
    rw [List.eq_nil_of_length_eq_zero this]
  have h1 : (tl t).Perm ((rots t).map lst) := (srtL_perm _).map lst
  refine h1.trans ?_
  have e : (rots t).map lst = ((List.range t.length).map (fun i => (i + (t.length - 1)) % t.length)).map (fun i => t.getD i 0) := by
    unfold rots
    rw [List.map_map, List.map_map]
    apply List.map_congr_left
    intro i hi
    rw [List.mem_range] at hi
    show lst (rot t i) = t.getD ((i + (t.length - 1)) % t.length) 0
    rw [lst_rot hi]
    congr 2
    omega
  rw [e]
  refine (perm_round.map _).trans (List.Perm.of_eq ?_)
  apply List.ext_getElem
  · simp
  · intro i h2 h3
    simp [List.getD_eq_getElem?_getD, h3]

/-- The last bytes of a text that is turned are the same. -/
theorem tl_rot {t : List Int} {k : Nat} (hk : k ≤ t.length) (h0 : 0 < t.length) : tl (rot t k) = tl t := by rw [tl, tl, RR_rot hk h0]

end Go.Proofs.Ytkccdhidmihekaa
