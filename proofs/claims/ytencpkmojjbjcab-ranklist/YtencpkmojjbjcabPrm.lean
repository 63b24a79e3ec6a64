/-
  In plain mathematics: lists of the same numbers in their order: how many come ahead of one (od), the one whose order is i (li), and that the next list has an order one more.
-/
import Derived.Test.YtencpkmojjbjcabChecked
namespace Go.Proofs.Ytencpkmojjbjcab

/-- How many lists there are of n numbers. -/
def fc : Nat → Nat
  | 0 => 1
  | n + 1 => fc n * (n + 1)

theorem fc_pos : ∀ n, 0 < fc n
  | 0 => by decide
  | n + 1 => Nat.mul_pos (fc_pos n) (by omega)
theorem fc_few : ∀ n : Fin 9, fc n.val ≤ 40320 := by decide +kernel
theorem fc_few' {n : Nat} (h : n ≤ 8) : fc n ≤ 40320 := fc_few ⟨n, by omega⟩

/-- How many of the numbers are less than x. -/
def lss (x : Int) (l : List Int) : Nat := l.countP (fun y => decide (y < x))

theorem lss_perm {x : Int} {a b : List Int} (h : a.Perm b) : lss x a = lss x b := h.countP_eq _
theorem lss_le (x : Int) (l : List Int) : lss x l ≤ l.length := List.countP_le_length
theorem lss_nil (x : Int) : lss x [] = 0 := rfl
theorem lss_cons (x y : Int) (l : List Int) : lss x (y :: l) = lss x l + (if y < x then 1 else 0) := by
  unfold lss
  rw [List.countP_cons]
  simp
theorem lss_append (x : Int) (a b : List Int) : lss x (a ++ b) = lss x a + lss x b := by
  unfold lss; rw [List.countP_append]
theorem lss_all {x : Int} {l : List Int} (h : ∀ y, y ∈ l → y < x) : lss x l = l.length := by
  induction l with
  | nil => rfl
  | cons y l ih =>
    rw [lss_cons, ih (fun z hz => h z (List.mem_cons_of_mem _ hz)), if_pos (h y (by simp))]; rfl
theorem lss_none {x : Int} {l : List Int} (h : ∀ y, y ∈ l → x ≤ y) : lss x l = 0 := by
  induction l with
  | nil => rfl
  | cons y l ih =>
    rw [lss_cons, ih (fun z hz => h z (List.mem_cons_of_mem _ hz)), if_neg (by have := h y (by simp); omega)]
theorem lss_mono {x y : Int} (h : x ≤ y) : ∀ l, lss x l ≤ lss y l
  | [] => Nat.le_refl 0
  | z :: l => by
    have := lss_mono h l
    rw [lss_cons, lss_cons]
    by_cases c : z < x
    · rw [if_pos c, if_pos (by omega)]; omega
    · rw [if_neg c]; omega
theorem lss_less {x y : Int} (h : x < y) : ∀ l, x ∈ l → lss x l < lss y l
  | [], h0 => by simp at h0
  | z :: l, hm => by
    have m := lss_mono (Int.le_of_lt h) l
    rw [lss_cons, lss_cons]
    by_cases e : z = x
    · subst e
      rw [if_neg (by omega), if_pos h]; omega
    · have hm' : x ∈ l := by
        rcases List.mem_cons.1 hm with r | r
        · exact absurd r.symm e
        · exact r
      have i := lss_less h l hm'
      by_cases c : z < x
      · rw [if_pos c, if_pos (by omega)]; omega
      · rw [if_neg c]; omega

/-- How many lists of the same numbers come ahead. -/
def od : List Int → Nat
  | [] => 0
  | x :: t => lss x t * fc t.length + od t

theorem od_lt : ∀ l, od l < fc l.length
  | [] => by decide
  | x :: t => by
    have h := od_lt t
    have hc := Nat.mul_le_mul_right (fc t.length) (lss_le x t)
    show lss x t * fc t.length + od t < fc t.length * (t.length + 1)
    rw [Nat.mul_succ, Nat.mul_comm (fc t.length)]
    omega

theorem two_parts {a b c d n : Nat} (hb : b < n) (hd : d < n) (h : a * n + b = c * n + d) : a = c ∧ b = d := by
  have h1 : (a * n + b) / n = a := by rw [Nat.mul_comm, Nat.mul_add_div (by omega), Nat.div_eq_of_lt hb]; omega
  have h2 : (c * n + d) / n = c := by rw [Nat.mul_comm, Nat.mul_add_div (by omega), Nat.div_eq_of_lt hd]; omega
  have e : a = c := by rw [← h1, ← h2, h]
  subst e
  exact ⟨rfl, by omega⟩

theorem od_inj : ∀ l m : List Int, l.Perm m → od l = od m → l = m
  | [], m, hp, _ => by rw [List.nil_perm.1 hp]
  | x :: t, [], hp, _ => by simp at hp
  | x :: t, y :: s, hp, h => by
    have hl : t.length = s.length := by have := hp.length_eq; simpa using this
    have h' : lss x t * fc t.length + od t = lss y s * fc t.length + od s := by
      have e : od (y :: s) = lss y s * fc t.length + od s := by rw [hl]; rfl
      rw [← e, ← h]; rfl
    obtain ⟨h1, h2⟩ := two_parts (od_lt t) (by rw [hl]; exact od_lt s) h'
    have c1 : lss x (x :: t) = lss x t := by rw [lss_cons, if_neg (by omega)]; omega
    have c2 : lss y (y :: s) = lss y s := by rw [lss_cons, if_neg (by omega)]; omega
    have c3 : lss x (x :: t) = lss x (y :: s) := lss_perm hp
    have e : x = y := by
      rcases Int.lt_trichotomy x y with l | l | l
      · have := lss_less l (y :: s) (hp.mem_iff.1 (by simp)); omega
      · exact l
      · have := lss_less l (y :: s) (by simp); omega
    subst e
    rw [od_inj t s (List.Perm.cons_inv hp) h2]

/-- The numbers told one by one, as the loop does it. -/
def hr : Nat → List Int → Nat
  | a, [] => a
  | a, x :: t => hr (a * (t.length + 1) + lss x (x :: t)) t
theorem hr_od : ∀ (l : List Int) (a : Nat), hr a l = a * fc l.length + od l
  | [], a => by show a = a * 1 + 0; omega
  | x :: t, a => by
    show hr (a * (t.length + 1) + lss x (x :: t)) t = a * (fc t.length * (t.length + 1)) + (lss x t * fc t.length + od t)
    have e : lss x (x :: t) = lss x t := by rw [lss_cons, if_neg (by omega)]; omega
    rw [hr_od t, e, Nat.add_mul, Nat.mul_assoc, Nat.mul_comm (t.length + 1), Nat.add_assoc]

/-- Rising, and falling. -/
def Up (l : List Int) : Prop := l.Pairwise (fun a b => a < b)
def Dn (l : List Int) : Prop := l.Pairwise (fun a b => b < a)

theorem od_up : ∀ l, Up l → od l = 0
  | [], _ => rfl
  | x :: t, h => by
    have h' := List.pairwise_cons.1 h
    show lss x t * fc t.length + od t = 0
    rw [lss_none (fun y hy => by have := h'.1 y hy; omega), od_up t h'.2]; omega
theorem od_dn : ∀ l, Dn l → od l + 1 = fc l.length
  | [], _ => rfl
  | x :: t, h => by
    have h' := List.pairwise_cons.1 h
    show lss x t * fc t.length + od t + 1 = fc t.length * (t.length + 1)
    rw [lss_all (fun y hy => h'.1 y hy), Nat.add_assoc, od_dn t h'.2, Nat.mul_succ, Nat.mul_comm]

theorem od_tail : ∀ (p a b : List Int), a.Perm b → od (p ++ a) + od b = od (p ++ b) + od a
  | [], a, b, _ => by show od a + od b = od b + od a; omega
  | x :: p, a, b, h => by
    have i := od_tail p a b h
    have hp : (p ++ a).Perm (p ++ b) := h.append_left p
    show lss x (p ++ a) * fc (p ++ a).length + od (p ++ a) + od b = lss x (p ++ b) * fc (p ++ b).length + od (p ++ b) + od a
    rw [lss_perm hp, hp.length_eq]
    omega

/-- The next list, told by its parts. -/
theorem next_parts (p s1 s2 : List Int) (x y : Int) (hd : Dn (s1 ++ y :: s2)) (hxy : x < y) (h2 : ∀ z, z ∈ s2 → z < x) :
    (p ++ y :: (s1 ++ x :: s2).reverse).Perm (p ++ x :: (s1 ++ y :: s2)) ∧ od (p ++ y :: (s1 ++ x :: s2).reverse) = od (p ++ x :: (s1 ++ y :: s2)) + 1 := by
  have hd' := List.pairwise_append.1 hd
  have hd2 := List.pairwise_cons.1 hd'.2.1
  have h1 : ∀ z, z ∈ s1 → y < z := fun z hz => hd'.2.2 z hz y (by simp)
  have q1 : (y :: (s1 ++ x :: s2)).Perm (x :: (s1 ++ y :: s2)) := by
    have a : (s1 ++ x :: s2).Perm (x :: (s1 ++ s2)) := List.perm_middle
    have b : (s1 ++ y :: s2).Perm (y :: (s1 ++ s2)) := List.perm_middle
    exact ((a.cons y).trans (List.Perm.swap x y _)).trans (b.symm.cons x)
  have q : (y :: (s1 ++ x :: s2).reverse).Perm (x :: (s1 ++ y :: s2)) := ((List.reverse_perm _).cons y).trans q1
  refine ⟨q.append_left p, ?_⟩
  have t := od_tail p _ _ q
  have e1 : od (y :: (s1 ++ x :: s2).reverse) = (s2.length + 1) * fc (s1.length + 1 + s2.length) := by
    show lss y (s1 ++ x :: s2).reverse * fc (s1 ++ x :: s2).reverse.length + od (s1 ++ x :: s2).reverse = _
    have up : Up (s1 ++ x :: s2).reverse := by
      unfold Up
      rw [List.pairwise_reverse]
      refine List.pairwise_append.2 ⟨hd'.1, List.pairwise_cons.2 ⟨h2, hd2.2⟩, ?_⟩
      intro a ha b hb
      have := h1 a ha
      rcases List.mem_cons.1 hb with r | r
      · omega
      · have := h2 b r; omega
    rw [od_up _ up, lss_perm (List.reverse_perm _), lss_append, lss_none (fun z hz => by have := h1 z hz; omega), lss_cons, if_pos hxy, lss_all (fun z hz => by have := h2 z hz; omega), List.length_reverse, List.length_append, List.length_cons]
    rw [show s1.length + (s2.length + 1) = s1.length + 1 + s2.length by omega, Nat.add_zero, Nat.zero_add]
  have e2 : od (x :: (s1 ++ y :: s2)) + 1 = (s2.length + 1) * fc (s1.length + 1 + s2.length) := by
    show lss x (s1 ++ y :: s2) * fc (s1 ++ y :: s2).length + od (s1 ++ y :: s2) + 1 = _
    rw [Nat.add_assoc, od_dn _ hd, lss_append, lss_none (fun z hz => by have := h1 z hz; omega), lss_cons, if_neg (by omega), lss_all h2, List.length_append, List.length_cons]
    rw [show s1.length + (s2.length + 1) = s1.length + 1 + s2.length by omega, Nat.add_mul s2.length 1]
    simp
  omega

/-- A list falls if each number is above the next. -/
theorem dn_of : ∀ l : List Int, (∀ k, k + 1 < l.length → l.getD (k + 1) 0 < l.getD k 0) → Dn l
  | [], _ => List.Pairwise.nil
  | [x], _ => List.pairwise_singleton _ _
  | x :: y :: t, h => by
    have h1 : Dn (y :: t) := dn_of (y :: t) (fun k hk => by
      have := h (k + 1) (by simp only [List.length_cons] at hk ⊢; omega)
      simpa using this)
    have h0 : y < x := by simpa using h 0 (by simp)
    refine List.pairwise_cons.2 ⟨?_, h1⟩
    intro z hz
    rcases List.mem_cons.1 hz with r | r
    · omega
    · have := (List.pairwise_cons.1 h1).1 z r; omega

theorem getD_drop (l : List Int) (i k : Nat) : (l.drop i).getD k 0 = l.getD (i + k) 0 := by
  rw [List.getD_eq_getElem?_getD, List.getD_eq_getElem?_getD, List.getElem?_drop]

/-- The next list, told by places. -/
theorem next_places (l : List Int) (i j : Nat) (hij : i < j) (hj : j < l.length)
    (hd : ∀ k, i < k → k + 1 < l.length → l.getD (k + 1) 0 < l.getD k 0)
    (hxy : l.getD i 0 < l.getD j 0) (h2 : ∀ k, j < k → k < l.length → l.getD k 0 < l.getD i 0) :
    let m := l.take i ++ l.getD j 0 :: ((l.drop (i + 1)).set (j - i - 1) (l.getD i 0)).reverse
    m.Perm l ∧ od m = od l + 1 := by
  have gi : l.getD i 0 = l[i] := by simp [List.getD_eq_getElem?_getD, (show i < l.length by omega)]
  have gj : l.getD j 0 = l[j] := by simp [List.getD_eq_getElem?_getD, hj]
  have hl : l = l.take i ++ l.getD i 0 :: l.drop (i + 1) := by
    rw [gi, List.getElem_cons_drop, List.take_append_drop]
  have hsl : (l.drop (i + 1)).length = l.length - (i + 1) := List.length_drop
  have hq : j - i - 1 < (l.drop (i + 1)).length := by omega
  have gs : (l.drop (i + 1))[j - i - 1] = l.getD j 0 := by
    rw [List.getElem_drop, gj]
    congr 1; omega
  have hs : l.drop (i + 1) = (l.drop (i + 1)).take (j - i - 1) ++ l.getD j 0 :: (l.drop (i + 1)).drop (j - i - 1 + 1) := by
    rw [← gs, List.getElem_cons_drop, List.take_append_drop]
  have hset : (l.drop (i + 1)).set (j - i - 1) (l.getD i 0) = (l.drop (i + 1)).take (j - i - 1) ++ l.getD i 0 :: (l.drop (i + 1)).drop (j - i - 1 + 1) := by
    rw [List.set_eq_take_append_cons_drop, if_pos hq]
  have dn : Dn (l.drop (i + 1)) := dn_of _ (fun k hk => by
    rw [getD_drop, getD_drop]
    rw [hsl] at hk
    have := hd (i + 1 + k) (by omega) (by omega)
    rw [show i + 1 + (k + 1) = i + 1 + k + 1 by omega]
    exact this)
  have n := next_parts (l.take i) ((l.drop (i + 1)).take (j - i - 1)) ((l.drop (i + 1)).drop (j - i - 1 + 1)) (l.getD i 0) (l.getD j 0) (by rw [← hs]; exact dn) hxy (by
    intro z hz
    obtain ⟨k, hk, rfl⟩ := List.mem_iff_getElem.1 hz
    rw [List.length_drop, hsl] at hk
    have := h2 (i + 1 + (j - i - 1 + 1 + k)) (by omega) (by omega)
    rw [List.getD_eq_getElem?_getD, List.getElem?_eq_getElem (by omega), Option.getD_some] at this
    rw [List.getElem_drop, List.getElem_drop]
    exact this)
  rw [← hs, ← hset, ← hl] at n
  exact n

/-- The last list. -/
theorem last_places (l : List Int) (hd : ∀ k, k + 1 < l.length → l.getD (k + 1) 0 < l.getD k 0) : od l + 1 = fc l.length := od_dn l (dn_of l hd)

/-- The list of the numbers that are left whose order is i. -/
def li : Nat → List Int → Nat → List Int
  | 0, _, _ => []
  | n + 1, left, i => left.getD (i / fc n) 0 :: li n (left.eraseIdx (i / fc n)) (i % fc n)

theorem li_ok : ∀ (n : Nat) (left : List Int) (i : Nat), left.length = n → Up left → i < fc n → (li n left i).Perm left ∧ od (li n left i) = i
  | 0, left, i, hl, _, hi => by
    have : left = [] := List.length_eq_zero_iff.1 hl
    subst this
    have : i = 0 := by have e : fc 0 = 1 := rfl; omega
    subst this
    exact ⟨List.Perm.refl _, rfl⟩
  | n + 1, left, i, hl, hu, hi => by
    have hp : i / fc n < n + 1 := by
      have : i < fc n * (n + 1) := hi
      rw [Nat.div_lt_iff_lt_mul (fc_pos n), Nat.mul_comm]
      exact this
    generalize hq : i / fc n = q at hp
    have hr : i % fc n < fc n := Nat.mod_lt _ (fc_pos n)
    have hql : q < left.length := by omega
    have g : left.getD q 0 = left[q] := by simp [List.getD_eq_getElem?_getD, hql]
    have hsub : Up (left.eraseIdx q) := List.Pairwise.sublist (List.eraseIdx_sublist left q) hu
    obtain ⟨h1, h2⟩ := li_ok n (left.eraseIdx q) (i % fc n) (by rw [List.length_eraseIdx, if_pos hql]; omega) hsub hr
    have hsplit : left = left.take q ++ left[q] :: left.drop (q + 1) := by rw [List.getElem_cons_drop, List.take_append_drop]
    have he : left.eraseIdx q = left.take q ++ left.drop (q + 1) := List.eraseIdx_eq_take_drop_succ left q
    have pm : (left[q] :: left.eraseIdx q).Perm left := by
      rw [he]
      have := (List.perm_middle (a := left[q]) (l₁ := left.take q) (l₂ := left.drop (q + 1))).symm
      rw [← hsplit] at this
      exact this
    unfold li
    rw [hq, g]
    refine ⟨(h1.cons _).trans pm, ?_⟩
    show lss left[q] (li n (left.eraseIdx q) (i % fc n)) * fc (li n (left.eraseIdx q) (i % fc n)).length + od (li n (left.eraseIdx q) (i % fc n)) = i
    have hu' := hu
    rw [hsplit] at hu'
    have u := List.pairwise_append.1 hu'
    have u2 := List.pairwise_cons.1 u.2.1
    have hc : lss left[q] (li n (left.eraseIdx q) (i % fc n)) = q := by
      rw [lss_perm h1, he, lss_append, lss_all (fun z hz => u.2.2 z hz left[q] List.mem_cons_self), lss_none (fun z hz => by have := u2.1 z hz; omega), List.length_take]
      omega
    rw [h2, hc, h1.length_eq, List.length_eraseIdx, if_pos hql, hl, Nat.add_sub_cancel, ← hq, Nat.mul_comm]
    exact Nat.div_add_mod i (fc n)

/-- The numbers below n, in order. -/
def frst (n : Nat) : List Int := (List.range n).map (fun i : Nat => (i : Int))
theorem frst_length (n : Nat) : (frst n).length = n := by simp [frst]
theorem mem_frst {n : Nat} {x : Int} : x ∈ frst n ↔ 0 ≤ x ∧ x < n := by
  unfold frst
  simp only [List.mem_map, List.mem_range]
  constructor
  · rintro ⟨i, hi, rfl⟩; omega
  · intro h; exact ⟨x.toNat, by omega, by omega⟩
theorem frst_up (n : Nat) : Up (frst n) := by
  unfold frst Up
  rw [List.pairwise_map]
  have h0 : (List.range n).Pairwise (fun a b => a < b) := List.pairwise_lt_range
  exact h0.imp (fun h => by omega)
theorem frst_nodup (n : Nat) : (frst n).Nodup := by
  unfold List.Nodup
  exact (frst_up n).imp (fun h => by omega)
theorem frst_succ (n : Nat) : frst (n + 1) = frst n ++ [(n : Int)] := by
  unfold frst
  rw [List.range_succ, List.map_append]; rfl
theorem frst_getD {n i : Nat} (h : i < n) : (frst n).getD i 0 = (i : Int) := by
  simp [frst, List.getD_eq_getElem?_getD, h]

theorem part_of : ∀ (a b : List Int), a.Nodup → (∀ x, x ∈ a → x ∈ b) → ∃ r, b.Perm (a ++ r)
  | [], b, _, _ => ⟨b, List.Perm.refl _⟩
  | x :: a, b, hn, hs => by
    have hn' := List.nodup_cons.1 hn
    obtain ⟨r, hr⟩ := part_of a (b.erase x) hn'.2 (fun y hy => by
      have hne : y ≠ x := fun e => hn'.1 (e ▸ hy)
      exact (List.mem_erase_of_ne hne).2 (hs y (List.mem_cons_of_mem _ hy)))
    exact ⟨r, (List.perm_cons_erase (hs x (by simp))).trans (hr.cons x)⟩
theorem perm_of {a b : List Int} (hn : a.Nodup) (hs : ∀ x, x ∈ a → x ∈ b) (hl : a.length = b.length) : b.Perm a := by
  obtain ⟨r, hr⟩ := part_of a b hn hs
  have : r = [] := by
    have := hr.length_eq
    rw [List.length_append] at this
    exact List.length_eq_zero_iff.1 (by omega)
  subst this
  simpa using hr

/-- The list has each number below its length once. -/
def Each (l : List Int) : Prop := l.Perm (frst l.length)
theorem each_of_once {l : List Int} (hn : l.Nodup) (hb : ∀ x, x ∈ l → 0 ≤ x ∧ x < l.length) : Each l :=
  (perm_of hn (fun x hx => mem_frst.2 (hb x hx)) (frst_length _).symm).symm
theorem each_of_all {l : List Int} (h : ∀ k : Nat, k < l.length → (k : Int) ∈ l) : Each l :=
  perm_of (frst_nodup _) (fun x hx => by
    have hx' := mem_frst.1 hx
    have := h x.toNat (by omega)
    rwa [show ((x.toNat : Nat) : Int) = x by omega] at this) (frst_length _)
theorem Each.nodup {l : List Int} (h : Each l) : l.Nodup := (List.Perm.nodup_iff h).2 (frst_nodup _)
theorem Each.mem {l : List Int} (h : Each l) {x : Int} : x ∈ l ↔ 0 ≤ x ∧ x < l.length := by
  rw [List.Perm.mem_iff h, mem_frst]
theorem Each.perm {l m : List Int} (h : Each l) (hp : m.Perm l) : Each m := by
  unfold Each
  rw [hp.length_eq]
  exact hp.trans h
theorem each_frst (n : Nat) : Each (frst n) := by unfold Each; rw [frst_length]
theorem Each.same {l m : List Int} (h : Each l) (h' : Each m) (hl : l.length = m.length) : l.Perm m := by
  have a : l.Perm (frst l.length) := h
  rw [hl] at a
  exact a.trans (List.Perm.symm h')

end Go.Proofs.Ytencpkmojjbjcab
