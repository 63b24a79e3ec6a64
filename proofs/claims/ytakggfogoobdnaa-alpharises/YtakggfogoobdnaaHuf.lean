/-
  Huffman's theorem, in plain mathematics: joining the two least weights loses nothing.
-/
import Derived.Test.YtakggfogoobdnaaBase
namespace Go.Proofs.Ytakggfogoobdnaa

/-- What pairs of a weight and a length cost. -/
def pc (P : List (Nat × Nat)) : Nat := (P.map fun p => p.1 * p.2).sum
/-- The room that they take. -/
def pk (P : List (Nat × Nat)) : Nat := (P.map fun p => 2 ^ (8 - p.2)).sum

@[simp] theorem pc_nil : pc [] = 0 := rfl
@[simp] theorem pk_nil : pk [] = 0 := rfl
@[simp] theorem pc_cons (p : Nat × Nat) (P : List (Nat × Nat)) : pc (p :: P) = p.1 * p.2 + pc P := by simp [pc]
@[simp] theorem pk_cons (p : Nat × Nat) (P : List (Nat × Nat)) : pk (p :: P) = 2 ^ (8 - p.2) + pk P := by simp [pk]

theorem pc_perm {P Q : List (Nat × Nat)} (h : P.Perm Q) : pc P = pc Q := by
  induction h with
  | nil => rfl
  | cons p _ ih => simp [ih]
  | swap p q l => simp; omega
  | trans _ _ h1 h2 => rw [h1, h2]

theorem pk_perm {P Q : List (Nat × Nat)} (h : P.Perm Q) : pk P = pk Q := by
  induction h with
  | nil => rfl
  | cons p _ ih => simp [ih]
  | swap p q l => simp; omega
  | trans _ _ h1 h2 => rw [h1, h2]

theorem pc_append (P Q : List (Nat × Nat)) : pc (P ++ Q) = pc P + pc Q := by
  induction P with
  | nil => simp
  | cons p P ih => simp [ih]; omega

theorem pk_append (P Q : List (Nat × Nat)) : pk (P ++ Q) = pk P + pk Q := by
  induction P with
  | nil => simp
  | cons p P ih => simp [ih]; omega

/-- Lengths of which there is a code. -/
def Fine (P : List (Nat × Nat)) : Prop := (∀ p ∈ P, p.2 ≤ 8) ∧ pk P ≤ 256

theorem Fine.perm {P Q : List (Nat × Nat)} (h : P.Perm Q) (hP : Fine P) : Fine Q :=
  ⟨fun p hp => hP.1 p (h.mem_iff.2 hp), by rw [← pk_perm h]; exact hP.2⟩

/-- No code for these weights costs less. -/
def LB (w : List Nat) (c : Nat) : Prop := ∀ P : List (Nat × Nat), (P.map (·.1)).Perm w → Fine P → c ≤ pc P

theorem LB.perm {w v : List Nat} {c : Nat} (h : w.Perm v) (hl : LB w c) : LB v c := fun P hP hF => hl P (hP.trans h.symm) hF

theorem lb_zero (w : List Nat) : LB w 0 := fun _ _ _ => Nat.zero_le _

/-- The longest of the lengths goes to the least weight. -/
theorem swap_max (a : Nat) : ∀ (Q : List (Nat × Nat)) (x : Nat), (∀ q ∈ Q, a ≤ q.1) →
    ∃ (x' : Nat) (Q' : List (Nat × Nat)), Q'.map (·.1) = Q.map (·.1) ∧ pc ((a, x') :: Q') ≤ pc ((a, x) :: Q) ∧ pk ((a, x') :: Q') = pk ((a, x) :: Q) ∧
      (∀ q ∈ Q', q.2 ≤ x') ∧ x ≤ x' ∧ ∀ M, x ≤ M → (∀ q ∈ Q, q.2 ≤ M) → x' ≤ M
  | [], x, _ => ⟨x, [], rfl, Nat.le_refl _, rfl, fun _ h => by simp at h, Nat.le_refl _, fun _ h _ => h⟩
  | q :: Q, x, h => by
    have hq := h q (by simp)
    have hQ : ∀ q' ∈ Q, a ≤ q'.1 := fun q' h' => h q' (by simp [h'])
    by_cases hx : q.2 ≤ x
    · obtain ⟨x', Q', e1, e2, e3, e4, e5, e6⟩ := swap_max a Q x hQ
      refine ⟨x', q :: Q', by simp [e1], ?_, ?_, ?_, e5, ?_⟩
      · simp at e2 ⊢; omega
      · simp at e3 ⊢; omega
      · intro p hp
        rcases List.mem_cons.1 hp with rfl | hp
        · omega
        · exact e4 p hp
      · intro M h1 h2
        exact e6 M h1 (fun p hp => h2 p (by simp [hp]))
    · obtain ⟨x', Q', e1, e2, e3, e4, e5, e6⟩ := swap_max a Q q.2 hQ
      refine ⟨x', (q.1, x) :: Q', by simp [e1], ?_, ?_, ?_, by omega, ?_⟩
      · simp at e2 ⊢
        obtain ⟨d, hd⟩ : ∃ d, q.1 = a + d := ⟨q.1 - a, by omega⟩
        obtain ⟨u, hu⟩ : ∃ u, q.2 = x + u := ⟨q.2 - x, by omega⟩
        rw [hd]
        rw [hu] at e2 ⊢
        have : (a + d) * (x + u) = a * x + a * u + d * x + d * u := by
          simp [Nat.add_mul, Nat.mul_add]; omega
        have h2 : (a + d) * x = a * x + d * x := Nat.add_mul _ _ _
        have h3 : a * (x + u) = a * x + a * u := Nat.mul_add _ _ _
        omega
      · simp at e3 ⊢; omega
      · intro p hp
        rcases List.mem_cons.1 hp with rfl | hp
        · simp; omega
        · exact e4 p hp
      · intro M h1 h2
        exact e6 M (h2 q (by simp)) (fun p hp => h2 p (by simp [hp]))

theorem pow8 {y : Nat} (h : y ≤ 8) : 2 ^ (8 - y) * 2 ^ y = 256 := by
  rw [← Nat.pow_add, Nat.sub_add_cancel h]

theorem pk_div (y : Nat) (hy : y ≤ 8) : ∀ R : List (Nat × Nat), (∀ q ∈ R, q.2 ≤ y) → ∃ k, pk R = k * 2 ^ (8 - y)
  | [], _ => ⟨0, by simp⟩
  | q :: R, h => by
    obtain ⟨k, hk⟩ := pk_div y hy R (fun q' h' => h q' (by simp [h']))
    have hq := h q (by simp)
    refine ⟨2 ^ (y - q.2) + k, ?_⟩
    rw [pk_cons, hk, Nat.add_mul, ← Nat.pow_add, show y - q.2 + (8 - y) = 8 - q.2 by omega]

theorem mem_fst {P : List (Nat × Nat)} {a : Nat} (h : a ∈ P.map (·.1)) : ∃ x, (a, x) ∈ P := by
  obtain ⟨p, hp, rfl⟩ := List.mem_map.1 h
  exact ⟨p.2, hp⟩

theorem take_first {P : List (Nat × Nat)} {a : Nat} {r : List Nat} (h : (P.map (·.1)).Perm (a :: r)) :
    ∃ x Q, P.Perm ((a, x) :: Q) ∧ (Q.map (·.1)).Perm r := by
  obtain ⟨x, hx⟩ := mem_fst (h.mem_iff.2 (by simp : a ∈ a :: r))
  refine ⟨x, P.erase (a, x), List.perm_cons_erase hx, ?_⟩
  have h2 := (List.perm_cons_erase hx).map (·.1)
  exact (List.perm_cons a).1 (h2.symm.trans h)

/-- Huffman: the two least weights may hang side by side. -/
theorem lb_join {a b c : Nat} {r : List Nat} (hab : a ≤ b) (hb : ∀ x ∈ r, b ≤ x) (h : LB ((a + b) :: r) c) : LB (a :: b :: r) (a + b + c) := by
  intro P hP hF
  obtain ⟨x, Q, p1, hQ⟩ := take_first hP
  obtain ⟨y, R, p2, hR⟩ := take_first hQ
  have hp : P.Perm ((a, x) :: (b, y) :: R) := p1.trans (p2.cons _)
  have hF := hF.perm hp
  rw [pc_perm hp]
  have hRb : ∀ q ∈ R, b ≤ q.1 := fun q hq => hb q.1 (hR.mem_iff.1 (List.mem_map_of_mem hq))
  obtain ⟨x', Q', e1, e2, e3, e4, e5, e6⟩ := swap_max a ((b, y) :: R) x (by
    intro q hq
    rcases List.mem_cons.1 hq with rfl | hq
    · exact hab
    · exact Nat.le_trans hab (hRb q hq))
  obtain ⟨q1, R1, rfl⟩ : ∃ q1 R1, Q' = q1 :: R1 := by
    cases Q' with
    | nil => simp at e1
    | cons q1 R1 => exact ⟨q1, R1, rfl⟩
  obtain ⟨b', y1⟩ := q1
  simp only [List.map_cons, List.cons.injEq] at e1
  obtain ⟨rfl, e1⟩ := e1
  obtain ⟨y', R', f1, f2, f3, f4, f5, f6⟩ := swap_max b' R1 y1 (by
    intro q hq
    have : q.1 ∈ R.map (·.1) := by rw [← e1]; exact List.mem_map_of_mem hq
    exact hb q.1 (hR.mem_iff.1 this))
  have hx8 : x' ≤ 8 := e6 8 (hF.1 (a, x) (by simp)) (fun q hq => hF.1 q (by simp at hq ⊢; exact .inr hq))
  have hyx : y' ≤ x' := f6 x' (e4 (b', y1) (by simp)) (fun q hq => e4 q (by simp [hq]))
  have hk : 2 ^ (8 - x') + (2 ^ (8 - y') + pk R') ≤ 256 := by
    have := hF.2
    simp at e3 f3 this
    omega
  have hc : a * x' + (b' * y' + pc R') ≤ pc ((a, x) :: (b', y) :: R) := by
    simp at e2 f2 ⊢
    omega
  obtain ⟨k, hkr⟩ := pk_div y' (by omega) R' f4
  have h256 := pow8 (y := y') (by omega)
  have hu : 0 < 2 ^ (8 - y') := Nat.pow_pos (by omega)
  have hxp : 0 < 2 ^ (8 - x') := Nat.pow_pos (by omega)
  have hk2 : (k + 2) ≤ 2 ^ y' := by
    have : (k + 1) * 2 ^ (8 - y') < 2 ^ y' * 2 ^ (8 - y') := by
      rw [Nat.add_mul, Nat.mul_comm (2 ^ y')]
      omega
    have := Nat.lt_of_mul_lt_mul_right this
    omega
  have hy1 : 1 ≤ y' := by
    rcases Nat.eq_zero_or_pos y' with h0 | h0
    · rw [h0] at hk2; simp at hk2
    · exact h0
  have h2u : pk R' + 2 * 2 ^ (8 - y') ≤ 256 := by
    have := Nat.mul_le_mul_right (2 ^ (8 - y')) hk2
    rw [Nat.add_mul, Nat.mul_comm (2 ^ y'), h256] at this
    omega
  have hm : c ≤ pc ((a + b', y' - 1) :: R') := by
    apply h
    · simp only [List.map_cons, f1, e1]
      exact hR.cons _
    · refine ⟨?_, ?_⟩
      · intro p hp
        rcases List.mem_cons.1 hp with rfl | hp
        · simp; omega
        · have := f4 p hp; omega
      · rw [pk_cons]
        simp only
        rw [show 8 - (y' - 1) = (8 - y') + 1 by omega, Nat.pow_succ]
        omega
  simp only [pc_cons] at hm
  obtain ⟨y2, rfl⟩ : ∃ y2, y' = y2 + 1 := ⟨y' - 1, by omega⟩
  have h1 : a * (y2 + 1) ≤ a * x' := Nat.mul_le_mul_left _ hyx
  have h3 : a * (y2 + 1) = a * y2 + a := Nat.mul_succ _ _
  have h4 : b' * (y2 + 1) = b' * y2 + b' := Nat.mul_succ _ _
  have h5 : (a + b') * (y2 + 1 - 1) = a * y2 + b' * y2 := by simp [Nat.add_mul]
  omega

/-- Who weighs more has no longer word, where the cost is the least. -/
theorem lb_order {P : List (Nat × Nat)} (hF : Fine P) (hl : LB (P.map (·.1)) (pc P)) {p q : Nat × Nat} (hp : p ∈ P) (hq : q ∈ P) (hw : q.1 < p.1) : p.2 ≤ q.2 := by
  have e1 := List.perm_cons_erase hp
  have hq2 : q ∈ P.erase p := (List.mem_erase_of_ne (by rintro rfl; omega)).2 hq
  have e2 := List.perm_cons_erase hq2
  obtain ⟨R, hR⟩ : ∃ R, (P.erase p).erase q = R := ⟨_, rfl⟩
  rw [hR] at e2
  have e3 : P.Perm (p :: q :: R) := e1.trans (e2.cons _)
  have h := hl ((p.1, q.2) :: (q.1, p.2) :: R) (by
    have := e3.map (·.1)
    simpa using this.symm) (by
    have := hF.perm e3
    refine ⟨?_, ?_⟩
    · intro s hs
      rcases List.mem_cons.1 hs with rfl | hs
      · exact this.1 q (by simp)
      · rcases List.mem_cons.1 hs with rfl | hs
        · exact this.1 p (by simp)
        · exact this.1 s (by simp [hs])
    · have h2 := this.2
      simp at h2 ⊢
      omega)
  rw [pc_perm e3] at h
  simp at h
  by_cases hc : p.2 ≤ q.2
  · exact hc
  · exfalso
    obtain ⟨d, hd⟩ : ∃ d, p.1 = q.1 + d + 1 := ⟨p.1 - q.1 - 1, by omega⟩
    obtain ⟨u, hu⟩ : ∃ u, p.2 = q.2 + u + 1 := ⟨p.2 - q.2 - 1, by omega⟩
    rw [hd, hu] at h
    have h1 : (q.1 + d + 1) * (q.2 + u + 1) = (q.1 + d + 1) * q.2 + (q.1 + d + 1) * (u + 1) := by rw [Nat.add_assoc q.2]; exact Nat.mul_add _ _ _
    have h2 : q.1 * (q.2 + u + 1) = q.1 * q.2 + q.1 * (u + 1) := by rw [Nat.add_assoc q.2]; exact Nat.mul_add _ _ _
    have h3 : (q.1 + d + 1) * (u + 1) = q.1 * (u + 1) + (d + 1) * (u + 1) := by rw [Nat.add_assoc q.1]; exact Nat.add_mul _ _ _
    have h4 : 0 < (d + 1) * (u + 1) := Nat.mul_pos (by omega) (by omega)
    omega

/-- One length more for each. -/
def up (S : List (Nat × Nat)) : List (Nat × Nat) := S.map fun p => (p.1, p.2 + 1)

/-- The symbols of a tree, each with how deep it hangs. -/
inductive Tree : List (Nat × Nat) → Prop
  | leaf (i : Nat) : Tree [(i, 0)]
  | join {S T : List (Nat × Nat)} (hS : Tree S) (hT : Tree T) : Tree (up (S ++ T))

theorem Tree.pos {S : List (Nat × Nat)} (h : Tree S) : 0 < S.length := by
  induction h with
  | leaf i => simp
  | join _ _ h1 h2 => simp [up]; omega

theorem Tree.deep {S : List (Nat × Nat)} (h : Tree S) : ∀ p ∈ S, p.2 < S.length := by
  induction h with
  | leaf i => simp
  | join hS hT h1 h2 =>
    intro p hp
    obtain ⟨q, hq, rfl⟩ := List.mem_map.1 hp
    have := hS.pos
    have := hT.pos
    rcases List.mem_append.1 hq with hq | hq
    · have := h1 q hq; simp [up]; omega
    · have := h2 q hq; simp [up]; omega

theorem pk_up : ∀ S : List (Nat × Nat), (∀ p ∈ S, p.2 + 1 ≤ 8) → 2 * pk (up S) = pk S
  | [], _ => rfl
  | p :: S, h => by
    have ih := pk_up S (fun q hq => h q (by simp [hq]))
    have hp := h p (by simp)
    have : up (p :: S) = (p.1, p.2 + 1) :: up S := rfl
    rw [this, pk_cons, pk_cons, Nat.mul_add, ih]
    simp only
    rw [show 8 - p.2 = (8 - (p.2 + 1)) + 1 by omega, Nat.pow_succ]
    omega

theorem Tree.kraft {S : List (Nat × Nat)} (h : Tree S) : (∀ p ∈ S, p.2 ≤ 8) → pk S = 256 := by
  induction h with
  | leaf i => intro _; simp
  | @join S T hS hT h1 h2 =>
    intro h8
    have hb : ∀ p ∈ S ++ T, p.2 + 1 ≤ 8 := fun p hp => h8 (p.1, p.2 + 1) (List.mem_map.2 ⟨p, hp, rfl⟩)
    have e := pk_up (S ++ T) hb
    have e1 := h1 (fun p hp => by have := hb p (by simp [hp]); omega)
    have e2 := h2 (fun p hp => by have := hb p (by simp [hp]); omega)
    rw [pk_append, e1, e2] at e
    omega

/-- The symbols' weights in the symbols' places. -/
def wp (w : Nat → Nat) (S : List (Nat × Nat)) : List (Nat × Nat) := S.map fun p => (w p.1, p.2)
/-- What a tree weighs. -/
def ws (w : Nat → Nat) (S : List (Nat × Nat)) : Nat := (S.map fun p => w p.1).sum
/-- What a tree costs. -/
def tc (w : Nat → Nat) (S : List (Nat × Nat)) : Nat := pc (wp w S)

theorem pk_wp (w : Nat → Nat) (S : List (Nat × Nat)) : pk (wp w S) = pk S := by simp [pk, wp, Function.comp_def]
theorem ws_append (w : Nat → Nat) (S T : List (Nat × Nat)) : ws w (S ++ T) = ws w S + ws w T := by simp [ws]
theorem ws_up (w : Nat → Nat) (S : List (Nat × Nat)) : ws w (up S) = ws w S := by simp [ws, up, Function.comp_def]
theorem tc_append (w : Nat → Nat) (S T : List (Nat × Nat)) : tc w (S ++ T) = tc w S + tc w T := by simp [tc, wp, pc_append]
theorem tc_up (w : Nat → Nat) (S : List (Nat × Nat)) : tc w (up S) = tc w S + ws w S := by
  induction S with
  | nil => rfl
  | cons p S ih =>
    have : up (p :: S) = (p.1, p.2 + 1) :: up S := rfl
    rw [this]
    simp only [tc, wp, ws, List.map_cons, pc_cons, List.sum_cons] at ih ⊢
    rw [ih, Nat.mul_succ]
    omega
theorem tc_perm {w : Nat → Nat} {S T : List (Nat × Nat)} (h : S.Perm T) : tc w S = tc w T := pc_perm (h.map _)
theorem tc_join (w : Nat → Nat) (S T : List (Nat × Nat)) : tc w (up (S ++ T)) = tc w S + tc w T + (ws w S + ws w T) := by
  rw [tc_up, tc_append, ws_append]
theorem up_fst (S : List (Nat × Nat)) : (up S).map (·.1) = S.map (·.1) := by simp [up, Function.comp_def]
theorem wp_fst (w : Nat → Nat) (S : List (Nat × Nat)) : (wp w S).map (·.1) = (S.map (·.1)).map w := by simp [wp, Function.comp_def]

/-- The forest under way: what its trees' weights cannot be outdone by, all cannot. -/
structure Forest (w : Nat → Nat) (n : Nat) (F : List (List (Nat × Nat))) : Prop where
  tree : ∀ S ∈ F, Tree S
  all : (F.flatten.map (·.1)).Perm (List.range n)
  best : ∀ c, LB (F.map (ws w)) c → LB ((List.range n).map w) (tc w F.flatten + c)

theorem Forest.perm {w : Nat → Nat} {n : Nat} {F G : List (List (Nat × Nat))} (h : Forest w n F) (hp : F.Perm G) : Forest w n G := by
  refine ⟨fun S hS => h.tree S (hp.mem_iff.2 hS), ((hp.flatten.map _).symm.trans h.all), ?_⟩
  intro c hc
  rw [← tc_perm hp.flatten]
  exact h.best c (hc.perm (hp.map _).symm)

theorem forest_start (w : Nat → Nat) (n : Nat) : Forest w n ((List.range n).map fun i => [(i, 0)]) := by
  have e : ((List.range n).map fun i => [(i, 0)]).flatten = (List.range n).map fun i => (i, 0) := by
    induction List.range n with
    | nil => rfl
    | cons x l ih => simp [ih]
  refine ⟨?_, ?_, ?_⟩
  · intro S hS
    obtain ⟨i, _, rfl⟩ := List.mem_map.1 hS
    exact .leaf i
  · rw [e]; simp [Function.comp_def]
  · intro c hc
    have h0 : tc w ((List.range n).map fun i => (i, 0)) = 0 := by
      induction List.range n with
      | nil => rfl
      | cons x l ih => simp only [tc, wp, List.map_cons, pc_cons] at ih ⊢; rw [ih]; simp
    rw [e, h0, Nat.zero_add]
    have : ((List.range n).map fun i => [(i, 0)]).map (ws w) = (List.range n).map w := by simp [ws, Function.comp_def]
    rwa [this] at hc

theorem Forest.join {w : Nat → Nat} {n : Nat} {S T : List (Nat × Nat)} {F : List (List (Nat × Nat))} (h : Forest w n (S :: T :: F)) (hST : ws w S ≤ ws w T)
    (hF : ∀ U ∈ F, ws w T ≤ ws w U) : Forest w n (F ++ [up (S ++ T)]) := by
  have hj : Forest w n (up (S ++ T) :: F) := by
    refine ⟨?_, ?_, ?_⟩
    · intro U hU
      rcases List.mem_cons.1 hU with rfl | hU
      · exact .join (h.tree S (by simp)) (h.tree T (by simp))
      · exact h.tree U (by simp [hU])
    · have := h.all
      simp only [List.flatten_cons, List.map_append, up_fst] at this ⊢
      simpa using this
    · intro c hc
      have e : tc w (up (S ++ T) :: F).flatten = tc w (S :: T :: F).flatten + (ws w S + ws w T) := by
        simp only [List.flatten_cons, tc_append, tc_join]; omega
      rw [e, Nat.add_assoc]
      apply h.best
      simp only [List.map_cons]
      apply lb_join hST
      · intro x hx
        obtain ⟨U, hU, rfl⟩ := List.mem_map.1 hx
        exact hF U hU
      · simpa only [List.map_cons, ws_up, ws_append] using hc
  exact hj.perm (List.perm_append_comm (l₁ := [up (S ++ T)]) (l₂ := F))

theorem Forest.done {w : Nat → Nat} {n : Nat} {F : List (List (Nat × Nat))} (h : Forest w n F) : LB ((List.range n).map w) (tc w F.flatten) := by
  have := h.best 0 (lb_zero _)
  simpa using this

end Go.Proofs.Ytakggfogoobdnaa
