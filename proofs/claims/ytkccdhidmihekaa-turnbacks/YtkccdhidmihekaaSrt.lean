/-
  Who comes first; two sorted parts made one, in plain mathematics.
-/
import Derived.Test.YtkccdhidmihekaaBase
namespace Go.Proofs.Ytkccdhidmihekaa

/-- What cmp.Compare answers. -/
def cmpI (x y : Int) : Int := if x < y then -1 else if y < x then 1 else 0
theorem cmpI_lt {x y : Int} (h : x < y) : cmpI x y = -1 := by simp [cmpI, h]
theorem cmpI_gt {x y : Int} (h : y < x) : cmpI x y = 1 := by
  unfold cmpI; rw [if_neg (by omega), if_pos h]
theorem cmpI_eq {x y : Int} (h : x = y) : cmpI x y = 0 := by
  unfold cmpI; rw [if_neg (by omega), if_neg (by omega)]
theorem cmpI_neg {x y : Int} : cmpI x y < 0 ↔ x < y := by
  unfold cmpI
  split
  · simp [*]
  · split <;> simp [*] <;> omega

/-- Who comes first: by the key, and of those alike the lesser one. -/
def LexI (key : Int → Int) (x y : Int) : Prop := key x < key y ∨ (key x = key y ∧ x < y)

theorem LexI.key {key : Int → Int} {x y : Int} (h : LexI key x y) : key x ≤ key y := by
  rcases h with h | h <;> omega
theorem LexI.trans {key : Int → Int} {x y z : Int} (h : LexI key x y) (k : LexI key y z) : LexI key x z := by
  unfold LexI at *
  omega
theorem LexI.asymm {key : Int → Int} {x y : Int} (h : LexI key x y) : ¬ LexI key y x := by
  unfold LexI at *
  omega

theorem sorted_key {key : Int → Int} {Y : List Int} (h : Y.Pairwise (LexI key)) {i j : Nat} (hij : i ≤ j) (hj : j < Y.length) : key Y[i] ≤ key Y[j] := by
  rcases Nat.lt_or_eq_of_le hij with h1 | rfl
  · exact (List.pairwise_iff_getElem.1 h i j (by omega) hj h1).key
  · omega

/-- All of the one part are less than all of the other one. -/
def Low (X Y : List Int) : Prop := ∀ x ∈ X, ∀ y ∈ Y, x < y

theorem mem_take_at {Y : List Int} {s : Nat} {y : Int} (h : y ∈ Y.take s) : ∃ i, ∃ hi : i < Y.length, i < s ∧ Y[i] = y := by
  obtain ⟨i, hi, rfl⟩ := List.getElem_of_mem h
  rw [List.length_take] at hi
  exact ⟨i, by omega, by omega, by rw [List.getElem_take]⟩
theorem mem_drop_at {Y : List Int} {s : Nat} {y : Int} (h : y ∈ Y.drop s) : ∃ i, ∃ hi : i < Y.length, s ≤ i ∧ Y[i] = y := by
  obtain ⟨i, hi, rfl⟩ := List.getElem_of_mem h
  rw [List.length_drop] at hi
  exact ⟨s + i, by omega, by omega, by rw [List.getElem_drop]⟩

/-- One number ahead of a sorted part. -/
theorem merge_left {key : Int → Int} {x : Int} {Y : List Int} {s : Nat} (hY : Y.Pairwise (LexI key)) (hl : Low [x] Y)
    (h1 : s = 0 ∨ ∃ h : s - 1 < Y.length, key Y[s - 1] < key x) (h2 : s = Y.length ∨ ∃ h : s < Y.length, ¬ key Y[s] < key x) :
    (Y.take s ++ x :: Y.drop s).Pairwise (LexI key) := by
  rw [List.pairwise_append, List.pairwise_cons]
  have b1 : ∀ y ∈ Y.take s, LexI key y x := by
    intro y hy
    obtain ⟨i, hi, his, rfl⟩ := mem_take_at hy
    rcases h1 with h1 | ⟨h, h1⟩
    · omega
    · have := sorted_key hY (i := i) (j := s - 1) (by omega) h
      exact .inl (by omega)
  have b2 : ∀ y ∈ Y.drop s, LexI key x y := by
    intro y hy
    obtain ⟨i, hi, his, rfl⟩ := mem_drop_at hy
    rcases h2 with h2 | ⟨h, h2⟩
    · omega
    · have := sorted_key hY (i := s) (j := i) his hi
      have h3 := hl x (by simp) Y[i] (List.getElem_mem hi)
      unfold LexI
      omega
  refine ⟨hY.sublist (List.take_sublist _ _), ⟨b2, hY.sublist (List.drop_sublist _ _)⟩, ?_⟩
  intro u hu v hv
  rcases List.mem_cons.1 hv with rfl | hv
  · exact b1 u hu
  · exact (b1 u hu).trans (b2 v hv)

/-- One number behind a sorted part. -/
theorem merge_right {key : Int → Int} {y : Int} {X : List Int} {s : Nat} (hX : X.Pairwise (LexI key)) (hl : Low X [y])
    (h1 : s = 0 ∨ ∃ h : s - 1 < X.length, ¬ key y < key X[s - 1]) (h2 : s = X.length ∨ ∃ h : s < X.length, key y < key X[s]) :
    (X.take s ++ y :: X.drop s).Pairwise (LexI key) := by
  rw [List.pairwise_append, List.pairwise_cons]
  have b1 : ∀ u ∈ X.take s, LexI key u y := by
    intro u hu
    obtain ⟨i, hi, his, rfl⟩ := mem_take_at hu
    rcases h1 with h1 | ⟨h, h1⟩
    · omega
    · have := sorted_key hX (i := i) (j := s - 1) (by omega) h
      have h3 := hl X[i] (List.getElem_mem hi) y (by simp)
      unfold LexI
      omega
  have b2 : ∀ u ∈ X.drop s, LexI key y u := by
    intro u hu
    obtain ⟨i, hi, his, rfl⟩ := mem_drop_at hu
    rcases h2 with h2 | ⟨h, h2⟩
    · omega
    · have := sorted_key hX (i := s) (j := i) his hi
      exact .inl (by omega)
  refine ⟨hX.sublist (List.take_sublist _ _), ⟨b2, hX.sublist (List.drop_sublist _ _)⟩, ?_⟩
  intro u hu v hv
  rcases List.mem_cons.1 hv with rfl | hv
  · exact b1 u hu
  · exact (b1 u hu).trans (b2 v hv)

/-- Where both parts are cut: e of the one, d of the other one. -/
structure Cut (key : Int → Int) (X Y : List Int) (e d : Nat) : Prop where
  he : e ≤ X.length
  hd : d ≤ Y.length
  low : e = 0 ∨ d = Y.length ∨ ∃ (h1 : e - 1 < X.length) (h2 : d < Y.length), ¬ key Y[d] < key X[e - 1]
  high : d = 0 ∨ e = X.length ∨ ∃ (h1 : d - 1 < Y.length) (h2 : e < X.length), key Y[d - 1] < key X[e]

theorem Cut.apart {key : Int → Int} {X Y : List Int} {e d : Nat} (h : Cut key X Y e d) (hX : X.Pairwise (LexI key)) (hY : Y.Pairwise (LexI key)) (hl : Low X Y) :
    ∀ u ∈ X.take e ++ Y.take d, ∀ v ∈ X.drop e ++ Y.drop d, LexI key u v := by
  intro u hu v hv
  rcases List.mem_append.1 hu with hu | hu <;> rcases List.mem_append.1 hv with hv | hv
  · obtain ⟨i, hi, his, rfl⟩ := mem_take_at hu
    obtain ⟨j, hj, hjs, rfl⟩ := mem_drop_at hv
    exact List.pairwise_iff_getElem.1 hX i j hi hj (by omega)
  · obtain ⟨i, hi, his, rfl⟩ := mem_take_at hu
    obtain ⟨j, hj, hjs, rfl⟩ := mem_drop_at hv
    rcases h.low with h1 | h1 | ⟨h1, h2, h3⟩
    · omega
    · omega
    · have a1 := sorted_key hX (i := i) (j := e - 1) (by omega) h1
      have a2 := sorted_key hY (i := d) (j := j) hjs hj
      have a3 := hl X[i] (List.getElem_mem hi) Y[j] (List.getElem_mem hj)
      unfold LexI
      omega
  · obtain ⟨i, hi, his, rfl⟩ := mem_take_at hu
    obtain ⟨j, hj, hjs, rfl⟩ := mem_drop_at hv
    rcases h.high with h1 | h1 | ⟨h1, h2, h3⟩
    · omega
    · omega
    · have a1 := sorted_key hY (i := i) (j := d - 1) (by omega) h1
      have a2 := sorted_key hX (i := e) (j := j) hjs hj
      exact .inl (by omega)
  · obtain ⟨i, hi, his, rfl⟩ := mem_take_at hu
    obtain ⟨j, hj, hjs, rfl⟩ := mem_drop_at hv
    exact List.pairwise_iff_getElem.1 hY i j hi hj (by omega)

theorem perm_four (A B C D : List Int) : ((A ++ C) ++ (B ++ D)).Perm ((A ++ B) ++ (C ++ D)) := by
  rw [List.append_assoc, List.append_assoc]
  refine List.Perm.append_left A ?_
  rw [← List.append_assoc, ← List.append_assoc]
  exact (List.perm_append_comm).append_right D

/-- Both halves sorted, they are one sorted part. -/
theorem Cut.join {key : Int → Int} {X Y Z1 Z2 : List Int} {e d : Nat} (h : Cut key X Y e d) (hX : X.Pairwise (LexI key)) (hY : Y.Pairwise (LexI key)) (hl : Low X Y)
    (p1 : Z1.Perm (X.take e ++ Y.take d)) (s1 : Z1.Pairwise (LexI key)) (p2 : Z2.Perm (X.drop e ++ Y.drop d)) (s2 : Z2.Pairwise (LexI key)) : (Z1 ++ Z2).Perm (X ++ Y) ∧ (Z1 ++ Z2).Pairwise (LexI key) := by
  refine ⟨?_, ?_⟩
  · refine (p1.append p2).trans ?_
    have := perm_four (X.take e) (X.drop e) (Y.take d) (Y.drop d)
    rw [List.take_append_drop, List.take_append_drop] at this
    exact this
  · rw [List.pairwise_append]
    exact ⟨s1, s2, fun u hu v hv => h.apart hX hY hl u (p1.subset hu) v (p2.subset hv)⟩

theorem low_sub {X Y X' Y' : List Int} (h : Low X Y) (hx : ∀ x ∈ X', x ∈ X) (hy : ∀ y ∈ Y', y ∈ Y) : Low X' Y' := fun x h1 y h2 => h x (hx x h1) y (hy y h2)

/-- The numbers from 0 on. -/
def upI (n : Nat) : List Int := (List.range n).map (fun i : Nat => (i : Int))
theorem upI_length (n : Nat) : (upI n).length = n := by simp [upI]
theorem upI_at {n i : Nat} (h : i < (upI n).length) : (upI n)[i] = (i : Int) := by simp [upI]
theorem upI_inc (n : Nat) : (upI n).Pairwise (· < ·) := by
  unfold upI
  rw [List.pairwise_map]
  have h0 : (List.range n).Pairwise (fun a b => a < b) := List.pairwise_lt_range
  exact h0.imp (fun h => by omega)
theorem mem_upI {n : Nat} {x : Int} : x ∈ upI n ↔ 0 ≤ x ∧ x < n := by
  unfold upI
  simp only [List.mem_map, List.mem_range]
  constructor
  · rintro ⟨i, hi, rfl⟩; omega
  · intro h; exact ⟨x.toNat, by omega, by omega⟩

/-- The part from a to b is sorted, and has just its own numbers. -/
structure Run (key : Int → Int) (l : List Int) (a b : Nat) : Prop where
  own : ∀ i, (h : i < l.length) → a ≤ i → i < b → (a : Int) ≤ l[i] ∧ l[i] < (b : Int)
  sort : ∀ i j, (hi : i < l.length) → (hj : j < l.length) → a ≤ i → i < j → j < b → LexI key l[i] l[j]

/-- What lies elsewhere does not matter. -/
theorem Run.same {key : Int → Int} {l l' : List Int} {a b : Nat} (h : Run key l a b) (hl : l.length = l'.length) (he : ∀ i, a ≤ i → i < b → l'.getD i 0 = l.getD i 0) : Run key l' a b := by
  have e : ∀ i, (h1 : i < l.length) → (h2 : i < l'.length) → a ≤ i → i < b → l'[i] = l[i] := by
    intro i h1 h2 h3 h4
    have := he i h3 h4
    simpa [List.getD_eq_getElem?_getD, h1, h2] using this
  refine ⟨fun i hi h1 h2 => ?_, fun i j hi hj h1 h2 h3 => ?_⟩
  · rw [e i (by omega) hi h1 h2]
    exact h.own i (by omega) h1 h2
  · rw [e i (by omega) hi h1 (by omega), e j (by omega) hj (by omega) h3]
    exact h.sort i j (by omega) (by omega) h1 h2 h3

/-- The part from a to b. -/
def part (l : List Int) (a b : Nat) : List Int := (l.take b).drop a
theorem part_length {l : List Int} {a b : Nat} (hb : b ≤ l.length) : (part l a b).length = b - a := by
  unfold part
  rw [List.length_drop, List.length_take]
  omega
theorem part_at {l : List Int} {a b i : Nat} (hb : b ≤ l.length) (hi : i < (part l a b).length) : (part l a b)[i] = l[a + i]'(by rw [part_length hb] at hi; omega) := by
  have e : (part l a b)[i]? = l[a + i]? := by
    unfold part
    rw [List.getElem?_drop, List.getElem?_take, if_pos (by rw [part_length hb] at hi; omega)]
  rw [List.getElem?_eq_getElem hi, List.getElem?_eq_getElem (by rw [part_length hb] at hi; omega)] at e
  exact Option.some.inj e
theorem split3 {l : List Int} {a b : Nat} (hab : a ≤ b) : l = l.take a ++ part l a b ++ l.drop b := by
  have h1 : l.take b = l.take a ++ part l a b := by
    unfold part
    have : l.take a = (l.take b).take a := by rw [List.take_take, Nat.min_eq_left hab]
    rw [this, List.take_append_drop]
  rw [← h1, List.take_append_drop]
theorem split4 {l : List Int} {a m b : Nat} (h1 : a ≤ m) (h2 : m ≤ b) : l = l.take a ++ part l a m ++ part l m b ++ l.drop b := by
  have e1 : l.take b = l.take m ++ part l m b := by
    unfold part
    have : l.take m = (l.take b).take m := by rw [List.take_take, Nat.min_eq_left h2]
    rw [this, List.take_append_drop]
  have e2 : l.take m = l.take a ++ part l a m := by
    unfold part
    have : l.take a = (l.take m).take a := by rw [List.take_take, Nat.min_eq_left h1]
    rw [this, List.take_append_drop]
  rw [← e2, ← e1, List.take_append_drop]

theorem Run.part {key : Int → Int} {l : List Int} {a b : Nat} (h : Run key l a b) (hb : b ≤ l.length) : (part l a b).Pairwise (LexI key) ∧ ∀ x ∈ part l a b, (a : Int) ≤ x ∧ x < (b : Int) := by
  refine ⟨?_, ?_⟩
  · rw [List.pairwise_iff_getElem]
    intro i j hi hj hij
    rw [part_at hb, part_at hb]
    rw [part_length hb] at hi hj
    exact h.sort _ _ _ _ (by omega) (by omega) (by omega)
  · intro x hx
    obtain ⟨i, hi, rfl⟩ := List.getElem_of_mem hx
    rw [part_at hb]
    rw [part_length hb] at hi
    exact h.own _ _ (by omega) (by omega)

/-- A part made anew. -/
theorem Run.made {key : Int → Int} {P Z R : List Int} {a b : Nat} (hP : P.length = a) (hZ : P.length + Z.length = b) (hs : Z.Pairwise (LexI key)) (ho : ∀ x ∈ Z, (a : Int) ≤ x ∧ x < (b : Int)) : Run key (P ++ Z ++ R) a b := by
  subst hP hZ
  have e : ∀ i, (h : i < (P ++ Z ++ R).length) → (h1 : P.length ≤ i) → (h2 : i < P.length + Z.length) → (P ++ Z ++ R)[i] = Z[i - P.length]'(by omega) := by
    intro i h h1 h2
    rw [List.getElem_append_left (by rw [List.length_append]; omega), List.getElem_append_right h1]
  refine ⟨fun i hi h1 h2 => ?_, fun i j hi hj h1 h2 h3 => ?_⟩
  · rw [e i hi h1 h2]
    exact ho _ (List.getElem_mem _)
  · rw [e i hi h1 (by omega), e j hj (by omega) h3]
    exact List.pairwise_iff_getElem.1 hs _ _ _ _ (by omega)

theorem getD_elsewhere {P Z Z' R : List Int} (hl : Z.length = Z'.length) {i : Nat} (h : i < P.length ∨ P.length + Z.length ≤ i) : (P ++ Z' ++ R).getD i 0 = (P ++ Z ++ R).getD i 0 := by
  simp only [List.getD_eq_getElem?_getD]
  congr 1
  rcases h with h | h
  · rw [List.append_assoc, List.append_assoc, List.getElem?_append_left h, List.getElem?_append_left h]
  · rw [List.getElem?_append_right (by rw [List.length_append]; omega), List.getElem?_append_right (by rw [List.length_append]; omega)]
    simp [hl]

theorem run_one {key : Int → Int} {n a : Nat} : Run key (upI n) a (a + 1) :=
  ⟨fun i hi h1 h2 => by rw [upI_at hi]; omega, fun i j _ _ h1 h2 h3 => by omega⟩

/-- What the sort has done: up to a in parts of twice s, behind it in parts of s. -/
structure Ch (key : Int → Int) (l : List Int) (n s a : Nat) : Prop where
  len : l.length = n
  perm : l.Perm (upI n)
  hs : 0 < s
  at_ : ∃ j, a = j * (2 * s)
  done : ∀ k, (k + 1) * (2 * s) ≤ a → Run key l (k * (2 * s)) ((k + 1) * (2 * s))
  todo : ∀ k, a ≤ k * s → k * s < n → Run key l (k * s) (min ((k + 1) * s) n)

/-- All in parts of s. -/
def Parts (key : Int → Int) (l : List Int) (n s : Nat) : Prop := l.length = n ∧ l.Perm (upI n) ∧ 0 < s ∧ ∀ k, k * s < n → Run key l (k * s) (min ((k + 1) * s) n)

theorem Parts.start {key : Int → Int} {l : List Int} {n s : Nat} (h : Parts key l n s) : Ch key l n s 0 :=
  ⟨h.1, h.2.1, h.2.2.1, ⟨0, by simp⟩, fun k hk => by
    have h0 := h.2.2.1
    have : 0 < (k + 1) * (2 * s) := Nat.mul_pos (by omega) (by omega)
    omega, fun k _ hk => h.2.2.2 k hk⟩

/-- Two parts are merged: what lies there anew is theirs, sorted. -/
theorem Ch.merge {key : Int → Int} {l Z : List Int} {n s a b : Nat} (h : Ch key l n s a) (hb : b = min (a + 2 * s) n) (ha : a + s < b) (hp : Z.Perm (part l a (a + s) ++ part l (a + s) b)) (hz : Z.Pairwise (LexI key)) :
    (l.take a ++ Z ++ l.drop b).length = n ∧ (l.take a ++ Z ++ l.drop b).Perm (upI n) ∧ Run key (l.take a ++ Z ++ l.drop b) a b ∧
      ∀ i, i < a ∨ b ≤ i → (l.take a ++ Z ++ l.drop b).getD i 0 = l.getD i 0 := by
  have hbn : b ≤ n := by omega
  have hl := h.len
  have e4 := split4 (l := l) (a := a) (m := a + s) (b := b) (by omega) (by omega)
  have hpl : (l.take a).length = a := by rw [List.length_take]; omega
  have hzl : Z.length = b - a := by
    rw [hp.length_eq, List.length_append, part_length (by omega), part_length (by omega)]
    omega
  obtain ⟨j, hj⟩ := h.at_
  have e1 : (2 * j) * s = a := by rw [hj, Nat.mul_comm 2 j, Nat.mul_assoc]
  have e2 : (2 * j + 1) * s = a + s := by rw [Nat.add_mul, e1, Nat.one_mul]
  have e3 : (2 * j + 1 + 1) * s = a + 2 * s := by rw [Nat.add_mul, e2, Nat.one_mul]; omega
  have r1 := h.todo (2 * j) (by omega) (by omega)
  have r2 := h.todo (2 * j + 1) (by omega) (by omega)
  rw [e2, e1] at r1
  rw [e3, e2] at r2
  rw [Nat.min_eq_left (by omega)] at r1
  rw [← hb] at r2
  have o1 := (r1.part (by omega)).2
  have o2 := (r2.part (by omega)).2
  have hperm : (l.take a ++ Z ++ l.drop b).Perm l := by
    have h5 : (l.take a ++ Z ++ l.drop b).Perm (l.take a ++ (part l a (a + s) ++ part l (a + s) b) ++ l.drop b) := (List.Perm.append_left _ hp).append_right _
    refine h5.trans (List.Perm.of_eq ?_)
    rw [← List.append_assoc]
    exact e4.symm
  refine ⟨by rw [hperm.length_eq]; exact hl, hperm.trans h.perm, Run.made hpl (by omega) hz (fun x hx => ?_), fun i hi => ?_⟩
  · rcases List.mem_append.1 (hp.subset hx) with hx | hx
    · have := o1 x hx; omega
    · have := o2 x hx; omega
  · have h6 := getD_elsewhere (P := l.take a) (Z := part l a b) (Z' := Z) (R := l.drop b) (by rw [part_length (by omega), hzl]) (i := i) (by rw [hpl, part_length (by omega)]; omega)
    rw [h6, ← split3 (by omega)]

theorem Ch.next {key : Int → Int} {l l' : List Int} {n s a : Nat} (h : Ch key l n s a) (hl : l'.length = n) (hp : l'.Perm (upI n)) (hr : Run key l' a (a + 2 * s)) (he : ∀ i, i < a ∨ a + 2 * s ≤ i → l'.getD i 0 = l.getD i 0) : Ch key l' n s (a + 2 * s) := by
  obtain ⟨j, hj⟩ := h.at_
  have hjs : (j + 1) * (2 * s) = a + 2 * s := by rw [Nat.add_mul, Nat.one_mul, ← hj]
  refine ⟨hl, hp, h.hs, ⟨j + 1, hjs.symm⟩, fun k hk => ?_, fun k hk hkn => ?_⟩
  · by_cases hkj : (k + 1) * (2 * s) ≤ a
    · have h1 := h.done k hkj
      refine h1.same (by rw [h.len, hl]) (fun i hi1 hi2 => he i (.inl (by omega)))
    · have : k = j := by
        have h0 := h.hs
        rw [hj] at hkj
        rw [← hjs] at hk
        have h1 : k + 1 ≤ j + 1 := Nat.le_of_mul_le_mul_right hk (by omega)
        have h2 : j < k + 1 := Nat.lt_of_mul_lt_mul_right (Nat.lt_of_not_le hkj)
        omega
      subst this
      rw [← hj, hjs]
      exact hr
  · have h1 := h.todo k (by omega) hkn
    refine h1.same (by rw [h.len, hl]) (fun i hi1 hi2 => he i (.inr (by omega)))

theorem Ch.last {key : Int → Int} {l l' : List Int} {n s a : Nat} (h : Ch key l n s a) (hb : ¬ a + 2 * s ≤ n) (hl : l'.length = n) (hp : l'.Perm (upI n)) (hr : a < n → Run key l' a n) (he : ∀ i, i < a → l'.getD i 0 = l.getD i 0) : Parts key l' n (2 * s) := by
  obtain ⟨j, hj⟩ := h.at_
  have h0 := h.hs
  have hjs : (j + 1) * (2 * s) = a + 2 * s := by rw [Nat.add_mul, Nat.one_mul, ← hj]
  refine ⟨hl, hp, by omega, fun k hk => ?_⟩
  by_cases hkj : (k + 1) * (2 * s) ≤ a
  · have h1 := h.done k hkj
    by_cases hm : (k + 1) * (2 * s) ≤ n
    · rw [Nat.min_eq_left hm]
      exact h1.same (by rw [h.len, hl]) (fun i hi1 hi2 => he i (by omega))
    · rw [Nat.min_eq_right (by omega)]
      refine ⟨fun i hi x1 x2 => ?_, fun i i' hi hi' x1 x2 x3 => ?_⟩
      · have h2 := (h1.same (l' := l') (by rw [h.len, hl]) (fun i hi1 hi2 => he i (by omega)))
        have := h2.own i hi x1 (by omega)
        have hm := hp.subset (List.getElem_mem hi)
        rw [mem_upI] at hm
        omega
      · have h2 := (h1.same (l' := l') (by rw [h.len, hl]) (fun i hi1 hi2 => he i (by omega)))
        exact h2.sort i i' hi hi' x1 x2 (by omega)
  · have : k = j := by
      have h2 : j < k + 1 := by
        rw [hj] at hkj
        exact Nat.lt_of_mul_lt_mul_right (Nat.lt_of_not_le hkj)
      have h1 : k < j + 1 := by
        have : k * (2 * s) < (j + 1) * (2 * s) := by omega
        exact Nat.lt_of_mul_lt_mul_right this
      omega
    subst this
    rw [← hj, hjs, Nat.min_eq_right (by omega)]
    rw [← hj] at hk
    exact hr hk

/-- .. where the last part is one already. -/
theorem Ch.rest {key : Int → Int} {l : List Int} {n s a : Nat} (h : Ch key l n s a) (hb : ¬ a + s < n) (ha : a < n) : Run key l a n := by
  obtain ⟨j, hj⟩ := h.at_
  have e1 : (2 * j) * s = a := by rw [hj, Nat.mul_comm 2 j, Nat.mul_assoc]
  have e2 : (2 * j + 1) * s = a + s := by rw [Nat.add_mul, e1, Nat.one_mul]
  have r1 := h.todo (2 * j) (by omega) (by omega)
  rw [e2, e1, Nat.min_eq_right (by omega)] at r1
  exact r1

/-- One part of all is sorted. -/
theorem Parts.all {key : Int → Int} {l : List Int} {n s : Nat} (h : Parts key l n s) (hs : n ≤ s) : l.Perm (upI n) ∧ l.Pairwise (LexI key) := by
  refine ⟨h.2.1, ?_⟩
  rw [List.pairwise_iff_getElem]
  intro i j hi hj hij
  have h1 := h.2.2.2 0 (by rw [h.1] at hi; omega)
  rw [Nat.zero_mul, Nat.zero_add, Nat.one_mul, Nat.min_eq_right hs] at h1
  exact h1.sort i j hi hj (by omega) hij (by rw [h.1] at hj; exact hj)

end Go.Proofs.Ytkccdhidmihekaa
