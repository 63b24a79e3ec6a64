/-
  Books, plain: no more words than Singleton's, Hamming's and Plotkin's bounds say. Nothing here speaks of the program.
-/
import Derived.Test.YtfcleenbhadfhacBp
namespace Go.Proofs.Ytfcleenbhadfhac

/-- All two words are so far apart at least. -/
def Far (d : Nat) (g : List Nat) : Prop := ∀ i j, i < j → j < g.length → d ≤ far (g.getD j 0) (g.getD i 0)

theorem Far.ne {d : Nat} {g : List Nat} (h : Far d g) {i j : Nat} (hi : i < g.length) (hj : j < g.length) (hne : i ≠ j) : d ≤ far (g.getD i 0) (g.getD j 0) := by
  rcases Nat.lt_or_ge i j with h' | h'
  · rw [far_comm]; exact h i j h' hj
  · exact h j i (by omega) hi

theorem book_far {n : Nat} {g : List Nat} : Far (lst n g (g.length - 1)) g := fun i j hij hj => lst_all n g _ j i hij (by omega)

theorem Book.pos {n : Nat} {g : List Nat} (B : Book n g) (h : 2 ≤ g.length) : 1 ≤ lst n g (g.length - 1) := by
  obtain ⟨_, a, b, hb, ha, e⟩ := B.isL h
  have hn := B.bits
  have hM : 2 ^ n ≤ 2 ^ 12 := Nat.pow_le_pow_right (by omega) hn
  have h1 := B.lt ha
  have h2 : g.getD b 0 < 2 ^ n := B.lt (by omega)
  have : far (g.getD a 0) (g.getD b 0) ≠ 0 := fun h0 => B.ne ha (by omega) (by omega) ((far_zero (by omega) (by omega)).1 h0)
  omega

/-- Numbers below K, none twice, are no more than K. -/
theorem few_below {K : Nat} {l : List Nat} (hn : l.Nodup) (hl : ∀ x ∈ l, x < K) : l.length ≤ K := by
  have := hn.length_le_of_subset (l₂ := List.range K) (fun x hx => List.mem_range.2 (hl x hx))
  simpa using this

theorem popN_low {z k : Nat} (h : ∀ i, i < k → z.testBit i = false) : ∀ j, popN (k + j) z ≤ j
  | 0 => by
    have e := popN_congr (a := z) (b := 0) k (fun i hi => by rw [h i hi]; simp)
    have e0 : ∀ m, popN m 0 = 0 := fun m => by
      induction m with
      | zero => rfl
      | succ m ih => show popN m 0 + _ = 0; rw [ih]; simp
    show popN k z ≤ 0
    rw [e, e0]; exact Nat.le_refl _
  | j + 1 => by
    have ih := popN_low h j
    show popN (k + j) z + (if z.testBit (k + j) then 1 else 0) ≤ j + 1
    split <;> omega

/-- Singleton. -/
theorem singleton_bound {n d : Nat} {g : List Nat} (B : Book n g) (F : Far d g) (h1 : 1 ≤ d) (hd : d ≤ n) : g.length ≤ 2 ^ (n - d + 1) := by
  have hn := B.bits
  have N : (g.map (fun x => x % 2 ^ (n - d + 1))).Nodup := by
    rw [List.nodup_iff_pairwise_ne, List.pairwise_map, List.pairwise_iff_getElem]
    intro i j hi hj hij e
    have f := F.ne hi hj (by omega)
    rw [getD_get hi, getD_get hj] at f
    have hx : g[i] ^^^ g[j] < 2 ^ n := Nat.xor_lt_two_pow (B.low _ (List.getElem_mem hi)) (B.low _ (List.getElem_mem hj))
    have p := popN_low (z := g[i] ^^^ g[j]) (k := n - d + 1) (fun t ht => by
      have e1 := congrArg (fun y => y.testBit t) e
      simp only [Nat.testBit_mod_two_pow, ht, decide_true, Bool.true_and] at e1
      rw [Nat.testBit_xor, e1]; simp) (d - 1)
    rw [show n - d + 1 + (d - 1) = n by omega] at p
    unfold far at f
    rw [pop_of_lt hx (by omega)] at f
    omega
  have := few_below N (fun x hx => by
    simp only [List.mem_map] at hx
    obtain ⟨y, _, rfl⟩ := hx
    exact Nat.mod_lt _ (Nat.two_pow_pos _))
  simpa using this

theorem near_mem {a r m x : Nat} : x ∈ near a r m ↔ x < m ∧ far a x ≤ r := by
  unfold near
  simp [List.mem_filter]

theorem near_nodup (a r m : Nat) : (near a r m).Nodup := List.Pairwise.filter _ List.nodup_range

theorem balls_length {n r : Nat} (hn : n ≤ 32) : ∀ {g : List Nat}, (∀ x ∈ g, x < 2 ^ n) → (g.flatMap (fun x => near x r (2 ^ n))).length = g.length * sz n (r + 1)
  | [], _ => by simp
  | a :: g, h => by
    rw [List.flatMap_cons, List.length_append, balls_length hn (fun x hx => h x (List.mem_cons_of_mem _ hx)), near_many hn (h a (List.mem_cons_self ..)), List.length_cons, Nat.add_mul]
    omega

/-- Hamming. -/
theorem hamming_bound {n d : Nat} {g : List Nat} (B : Book n g) (F : Far d g) (h1 : 1 ≤ d) : g.length * sz n ((d - 1) / 2 + 1) ≤ 2 ^ n := by
  have hn := B.bits
  rw [← balls_length (r := (d - 1) / 2) (by omega) B.low]
  refine few_below ?_ (fun x hx => ?_)
  · rw [List.nodup_iff_pairwise_ne, List.pairwise_flatMap]
    refine ⟨fun a _ => near_nodup _ _ _, ?_⟩
    rw [List.pairwise_iff_getElem]
    intro i j hi hj hij x hx y hy e
    subst e
    have f := F.ne hi hj (by omega)
    rw [getD_get hi, getD_get hj] at f
    have t := far_tri g[i] x g[j]
    have a1 := (near_mem.1 hx).2
    have a2 := (near_mem.1 hy).2
    rw [far_comm g[j]] at a2
    omega
  · simp only [List.mem_flatMap] at hx
    obtain ⟨a, _, hx⟩ := hx
    exact (near_mem.1 hx).1

/-- How many words have the bit k. -/
def bc (k : Nat) (g : List Nat) : Nat := (g.filter (fun x => x.testBit k)).length

theorem bc_le (k : Nat) (g : List Nat) : bc k g ≤ g.length := List.length_filter_le _ _
theorem bc_cons (k x : Nat) (g : List Nat) : bc k (x :: g) = bc k g + (if x.testBit k then 1 else 0) := by
  unfold bc
  rw [List.filter_cons]
  split <;> simp

theorem row_bit (k x : Nat) : ∀ g : List Nat, (g.map (fun y => if (x ^^^ y).testBit k then 1 else 0)).sum = if x.testBit k then g.length - bc k g else bc k g
  | [] => by simp [bc]
  | y :: g => by
    have ih := row_bit k x g
    have hb := bc_le k g
    rw [List.map_cons, List.sum_cons, ih, bc_cons, List.length_cons, Nat.testBit_xor]
    cases x.testBit k <;> cases y.testBit k <;> simp <;> omega

theorem all_bit (k : Nat) (g : List Nat) : ∀ h : List Nat, (h.map (fun x => (g.map (fun y => if (x ^^^ y).testBit k then 1 else 0)).sum)).sum = bc k h * (g.length - bc k g) + (h.length - bc k h) * bc k g
  | [] => by simp [bc]
  | x :: h => by
    have ih := all_bit k g h
    have hb := bc_le k h
    rw [List.map_cons, List.sum_cons, ih, row_bit, bc_cons, List.length_cons]
    cases x.testBit k
    · simp only [Bool.false_eq_true, if_false, Nat.add_zero]
      rw [show h.length + 1 - bc k h = h.length - bc k h + 1 by omega, Nat.add_mul]
      omega
    · simp only [if_true]
      rw [show h.length + 1 - (bc k h + 1) = h.length - bc k h by omega, Nat.add_mul]
      omega

/-- All distances together, by the first m bits. -/
def dd (m : Nat) (h g : List Nat) : Nat := (h.map (fun x => (g.map (fun y => popN m (x ^^^ y))).sum)).sum

theorem sum_add (f e : Nat → Nat) : ∀ g : List Nat, (g.map (fun x => f x + e x)).sum = (g.map f).sum + (g.map e).sum
  | [] => rfl
  | x :: g => by simp only [List.map_cons, List.sum_cons, sum_add f e g]; omega

theorem dd_next (m : Nat) (g : List Nat) : dd (m + 1) g g = dd m g g + (bc m g * (g.length - bc m g) + (g.length - bc m g) * bc m g) := by
  rw [← all_bit m g g]
  unfold dd
  rw [← sum_add]
  congr 2
  funext x
  rw [← sum_add]
  rfl

theorem four (c e : Nat) : 4 * (c * e) ≤ (c + e) * (c + e) := by
  have h : (c + e) * (c + e) = c * c + 2 * (c * e) + e * e := by rw [Nat.add_mul, Nat.mul_add, Nat.mul_add, Nat.mul_comm e c]; omega
  have : 2 * (c * e) ≤ c * c + e * e := by
    rcases Nat.le_total c e with h' | h'
    · obtain ⟨k, rfl⟩ := Nat.le.dest h'
      have : (c + k) * (c + k) = c * c + 2 * (c * k) + k * k := by rw [Nat.add_mul, Nat.mul_add, Nat.mul_add, Nat.mul_comm k c]; omega
      rw [this, Nat.mul_add]; omega
    · obtain ⟨k, rfl⟩ := Nat.le.dest h'
      have : (e + k) * (e + k) = e * e + 2 * (e * k) + k * k := by rw [Nat.add_mul, Nat.mul_add, Nat.mul_add, Nat.mul_comm k e]; omega
      rw [this, Nat.add_mul, Nat.mul_comm k e]; omega
  omega

theorem four_odd (c e : Nat) (h : (c + e) % 2 = 1) : 4 * (c * e) + 1 ≤ (c + e) * (c + e) := by
  have f := four c e
  have o : (c + e) * (c + e) % 2 = 1 := by rw [Nat.mul_mod, h]
  omega

theorem dd_upper (g : List Nat) : ∀ m, 2 * dd m g g ≤ m * (g.length * g.length)
  | 0 => by
    have : dd 0 g g = 0 := by
      unfold dd
      have e : ∀ l : List Nat, (l.map (fun _ => 0)).sum = 0 := fun l => by induction l with | nil => rfl | cons a l ih => simpa using ih
      show (g.map (fun x => (g.map (fun y => 0)).sum)).sum = 0
      rw [e g, e g]
    rw [this]; simp
  | m + 1 => by
    have ih := dd_upper g m
    have hb := bc_le m g
    have f := four (bc m g) (g.length - bc m g)
    rw [show bc m g + (g.length - bc m g) = g.length by omega] at f
    rw [dd_next, Nat.add_mul, Nat.mul_comm (g.length - bc m g) (bc m g)]
    omega

theorem dd_upper_odd (g : List Nat) (h : g.length % 2 = 1) : ∀ m, 2 * dd m g g + m ≤ m * (g.length * g.length)
  | 0 => by
    have := dd_upper g 0
    omega
  | m + 1 => by
    have ih := dd_upper_odd g h m
    have hb := bc_le m g
    have f := four_odd (bc m g) (g.length - bc m g) (by omega)
    rw [show bc m g + (g.length - bc m g) = g.length by omega] at f
    rw [dd_next, Nat.add_mul, Nat.mul_comm (g.length - bc m g) (bc m g)]
    omega

theorem row_all {d : Nat} (f : Nat → Nat) : ∀ l : List Nat, (∀ y ∈ l, d ≤ f y) → l.length * d ≤ (l.map f).sum
  | [], _ => by simp
  | y :: l, h => by
    have ih := row_all f l (fun z hz => h z (List.mem_cons_of_mem _ hz))
    have := h y (List.mem_cons_self ..)
    rw [List.map_cons, List.sum_cons, List.length_cons, Nat.add_mul]
    omega

theorem row_but {d x : Nat} (f : Nat → Nat) : ∀ l : List Nat, l.Nodup → (∀ y ∈ l, y ≠ x → d ≤ f y) → l.length * d ≤ (l.map f).sum + d
  | [], _, _ => by simp
  | y :: l, hn, h => by
    rw [List.nodup_cons] at hn
    rw [List.map_cons, List.sum_cons, List.length_cons, Nat.add_mul]
    by_cases e : y = x
    · have := row_all (d := d) f l (fun z hz => h z (List.mem_cons_of_mem _ hz) (fun e' => hn.1 (by rw [e, ← e']; exact hz)))
      omega
    · have ih := row_but (d := d) (x := x) f l hn.2 (fun z hz => h z (List.mem_cons_of_mem _ hz))
      have := h y (List.mem_cons_self ..) e
      omega

theorem dd_lower {n d : Nat} {g : List Nat} (hn : n ≤ 32) (low : ∀ x ∈ g, x < 2 ^ n) (once : g.Nodup) (F : ∀ x ∈ g, ∀ y ∈ g, y ≠ x → d ≤ far x y) :
    ∀ h : List Nat, (∀ x ∈ h, x ∈ g) → h.length * (g.length * d) ≤ dd n h g + h.length * d
  | [], _ => by simp
  | x :: h, hh => by
    have ih := dd_lower hn low once F h (fun z hz => hh z (List.mem_cons_of_mem _ hz))
    have hx := hh x (List.mem_cons_self ..)
    have r := row_but (d := d) (x := x) (fun y => popN n (x ^^^ y)) g once (fun y hy hne => by
      have := F x hx y hy hne
      unfold far at this
      rw [pop_of_lt (Nat.xor_lt_two_pow (low x hx) (low y hy)) hn] at this
      exact this)
    have e : dd n (x :: h) g = (g.map (fun y => popN n (x ^^^ y))).sum + dd n h g := rfl
    rw [e, List.length_cons, Nat.add_mul, Nat.add_mul]
    omega

theorem plotkin_even {M n d t D : Nat} (hM : 0 < M) (ht : 2 * d = n + t) (lo : M * (M * d) ≤ D + M * d) (up : 2 * D ≤ n * (M * M)) : M * t ≤ 2 * d := by
  have h1 : M * (M * (2 * d)) ≤ M * (M * n + 2 * d) := by
    have e1 : M * (M * (2 * d)) = 2 * (M * (M * d)) := by rw [Nat.mul_left_comm M 2 d, Nat.mul_left_comm M 2]
    have e2 : M * (M * n + 2 * d) = n * (M * M) + 2 * (M * d) := by rw [Nat.mul_add, ← Nat.mul_assoc, Nat.mul_comm (M * M) n, Nat.mul_left_comm M 2 d]
    rw [e1, e2]
    omega
  have h2 := Nat.le_of_mul_le_mul_left h1 hM
  have e3 : M * (2 * d) = M * n + M * t := by rw [ht, Nat.mul_add]
  omega

theorem plotkin_odd {M n d t D : Nat} (hM : 1 < M) (ht : 2 * d = n + t) (lo : M * (M * d) ≤ D + M * d) (up : 2 * D + n ≤ n * (M * M)) : (M + 1) * t ≤ 2 * d := by
  obtain ⟨k, rfl⟩ : ∃ k, M = k + 1 := ⟨M - 1, by omega⟩
  have e1 : 2 * ((k + 1) * ((k + 1) * d)) = n * ((k + 1) * (k + 1)) + (k + 1) * ((k + 1) * t) := by
    rw [← Nat.mul_assoc (k + 1) (k + 1) d, Nat.mul_left_comm 2, ht, Nat.mul_add, Nat.mul_comm _ n, Nat.mul_assoc (k + 1) (k + 1) t]
  have e2 : 2 * ((k + 1) * d) = (k + 1) * n + (k + 1) * t := by rw [Nat.mul_left_comm, ht, Nat.mul_add]
  have e3 : (k + 1) * ((k + 1) * t) = k * ((k + 1) * t) + (k + 1) * t := by rw [Nat.add_mul k 1, Nat.one_mul]
  have e4 : (k + 1) * n = k * n + n := by rw [Nat.add_mul, Nat.one_mul]
  have h : k * ((k + 1) * t) ≤ k * n := by omega
  have h2 := Nat.le_of_mul_le_mul_left h (by omega)
  have e5 : (k + 1 + 1) * t = (k + 1) * t + t := by rw [Nat.add_mul (k + 1) 1, Nat.one_mul]
  omega

/-- Plotkin. -/
theorem plotkin_bound {n d : Nat} {g : List Nat} (B : Book n g) (F : Far d g) (h2 : 2 ≤ g.length) (hd : n < 2 * d) : g.length ≤ 2 * (d / (2 * d - n)) := by
  have hn := B.bits
  have F' : ∀ x ∈ g, ∀ y ∈ g, y ≠ x → d ≤ far x y := fun x hx y hy hne => by
    obtain ⟨i, hi, rfl⟩ := List.mem_iff_getElem.1 hx
    obtain ⟨j, hj, rfl⟩ := List.mem_iff_getElem.1 hy
    have := F.ne hi hj (fun e => hne (by subst e; rfl))
    rwa [getD_get hi, getD_get hj] at this
  have lo := dd_lower (by omega) B.low B.once F' g (fun x hx => hx)
  have hp : 0 < 2 * d - n := by omega
  have up := dd_upper g n
  obtain ⟨t, ht⟩ : ∃ t, t = 2 * d - n := ⟨_, rfl⟩
  rw [← ht]
  rcases Nat.mod_two_eq_zero_or_one g.length with h | h
  · have r := plotkin_even (t := t) (by omega) (by omega) lo up
    obtain ⟨k, hk⟩ : ∃ k, g.length = 2 * k := ⟨g.length / 2, by omega⟩
    rw [hk, Nat.mul_assoc] at r
    have : k ≤ d / t := (Nat.le_div_iff_mul_le (by omega)).2 (by omega)
    omega
  · have r := plotkin_odd (t := t) (by omega) (by omega) lo (dd_upper_odd g h n)
    obtain ⟨k, hk⟩ : ∃ k, g.length + 1 = 2 * k := ⟨(g.length + 1) / 2, by omega⟩
    rw [hk, Nat.mul_assoc] at r
    have : k ≤ d / t := (Nat.le_div_iff_mul_le (by omega)).2 (by omega)
    omega

end Go.Proofs.Ytfcleenbhadfhac
