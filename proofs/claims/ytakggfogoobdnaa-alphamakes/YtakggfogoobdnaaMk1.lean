/-
  Words one behind the other, in plain mathematics: the first word of a length that comes behind all ahead of it, and that none of them begins.
-/
import Derived.Test.YtakggfogoobdnaaAlp
namespace Go.Proofs.Ytakggfogoobdnaa

/-- The digits of a number, the greatest first. -/
def dg (x m : Nat) : List Bool := (List.range m).map (fun i => x.testBit (m - 1 - i))
theorem dg_length (x m : Nat) : (dg x m).length = m := by simp [dg]
theorem dg_succ (x m : Nat) : dg x (m + 1) = x.testBit m :: dg x m := by
  unfold dg
  rw [List.range_succ_eq_map, List.map_cons, List.map_map]
  congr 1
  apply List.map_congr_left
  intro i _
  show x.testBit (m + 1 - 1 - (i + 1)) = _
  congr 1
  omega

/-- Has the first word 0 where both first differ? -/
def rsB : List Bool → List Bool → Bool
  | a :: as, b :: bs => if a = b then rsB as bs else b
  | _, _ => false

/-- The number of a word. -/
def vl : List Bool → Nat
  | [] => 0
  | b :: l => b.toNat * 2 ^ l.length + vl l

theorem vl_lt : ∀ l : List Bool, vl l < 2 ^ l.length
  | [] => by simp [vl]
  | b :: l => by
    have ih := vl_lt l
    simp only [vl, List.length_cons, Nat.pow_succ]
    cases b <;> simp <;> omega

theorem vl_dg (x : Nat) : ∀ m, vl (dg x m) = x % 2 ^ m
  | 0 => by simp [dg, vl, Nat.mod_one]
  | m + 1 => by
    rw [dg_succ, vl, dg_length, vl_dg x m, Nat.mod_pow_succ, Nat.testBit_eq_decide_div_mod_eq]
    have h := Nat.mod_two_eq_zero_or_one (x / 2 ^ m)
    rcases h with h | h
    · rw [h]; simp
    · rw [h]; simp; omega

theorem rsB_iff : ∀ u v : List Bool, rsB u v = true ↔ (vl u + 1) * 2 ^ v.length ≤ vl v * 2 ^ u.length
  | [], v => by
    have := vl_lt v
    simp only [rsB, vl, List.length_nil, Nat.pow_zero, Nat.mul_one, Nat.zero_add, Nat.one_mul]
    constructor
    · intro h; cases h
    · intro h; omega
  | a :: u, [] => by
    simp only [rsB, vl, List.length_nil, Nat.pow_zero, Nat.mul_one, Nat.zero_mul]
    constructor
    · intro h; cases h
    · intro h; omega
  | a :: u, b :: v => by
    have ih := rsB_iff u v
    have hu := vl_lt u
    have hv := vl_lt v
    simp only [rsB, vl, List.length_cons, Nat.pow_succ]
    generalize hU : 2 ^ u.length = U at *
    generalize hV : 2 ^ v.length = V at *
    have m1 : ∀ p q r : Nat, p * (q * r) = p * q * r := fun p q r => (Nat.mul_assoc p q r).symm
    cases a <;> cases b
    · simp only [Bool.toNat_false, Nat.zero_mul, Nat.zero_add, if_true]
      rw [ih, m1, m1]
      omega
    · simp only [Bool.toNat_false, Bool.toNat_true, Nat.zero_mul, Nat.zero_add, Nat.one_mul]
      have h1 : (vl u + 1) * (V * 2) ≤ U * (V * 2) := Nat.mul_le_mul_right _ (by omega)
      have h2 : V * (U * 2) ≤ (V + vl v) * (U * 2) := Nat.mul_le_mul_right _ (by omega)
      have h3 : U * (V * 2) = V * (U * 2) := by rw [m1, m1, Nat.mul_comm U V]
      simp
      omega
    · simp only [Bool.toNat_false, Bool.toNat_true, Nat.zero_mul, Nat.zero_add, Nat.one_mul]
      have h1 : vl v * (U * 2) ≤ (V - 1) * (U * 2) := Nat.mul_le_mul_right _ (by omega)
      have h2 : U * (V * 2) ≤ (U + vl u + 1) * (V * 2) := Nat.mul_le_mul_right _ (by omega)
      have h3 : U * (V * 2) = V * (U * 2) := by rw [m1, m1, Nat.mul_comm U V]
      have h4 : (V - 1) * (U * 2) + U * 2 = V * (U * 2) := by
        obtain ⟨V', rfl⟩ : ∃ V', V = V' + 1 := ⟨V - 1, by omega⟩
        simp [Nat.add_mul]
      have h5 : 0 < U := by omega
      constructor
      · intro h; simp at h
      · intro h; omega
    · simp only [Bool.toNat_true, Nat.one_mul, if_true]
      rw [ih]
      have e1 : (U + vl u + 1) * (V * 2) = U * V * 2 + (vl u + 1) * V * 2 := by
        rw [Nat.add_assoc, Nat.add_mul, m1, m1]
      have e2 : (V + vl v) * (U * 2) = U * V * 2 + vl v * U * 2 := by
        rw [Nat.add_mul, m1, m1, Nat.mul_comm V U]
      rw [e1, e2]
      omega

theorem rsB_dg {x a y b : Nat} (hx : x < 2 ^ a) (hy : y < 2 ^ b) : rsB (dg x a) (dg y b) = true ↔ (x + 1) * 2 ^ b ≤ y * 2 ^ a := by
  rw [rsB_iff, vl_dg, vl_dg, dg_length, dg_length, Nat.mod_eq_of_lt hx, Nat.mod_eq_of_lt hy]

/-- The first number of the length b of which nothing lies ahead of the place x of the width a. -/
def rsz (x a b : Nat) : Nat := if a ≤ b then x * 2 ^ (b - a) else (x + 2 ^ (a - b) - 1) / 2 ^ (a - b)

theorem rsz_le (x a b y : Nat) : rsz x a b ≤ y ↔ x * 2 ^ b ≤ y * 2 ^ a := by
  unfold rsz
  by_cases h : a ≤ b
  · rw [if_pos h]
    have e : 2 ^ b = 2 ^ (b - a) * 2 ^ a := by rw [← Nat.pow_add, Nat.sub_add_cancel h]
    rw [e, ← Nat.mul_assoc]
    exact ⟨fun h => Nat.mul_le_mul_right _ h, fun h => Nat.le_of_mul_le_mul_right h (Nat.pow_pos (by omega))⟩
  · rw [if_neg h]
    have e : 2 ^ a = 2 ^ (a - b) * 2 ^ b := by rw [← Nat.pow_add, Nat.sub_add_cancel (by omega)]
    rw [e, ← Nat.mul_assoc]
    have hs : 0 < 2 ^ (a - b) := Nat.pow_pos (by omega)
    have hb : 0 < 2 ^ b := Nat.pow_pos (by omega)
    generalize 2 ^ (a - b) = s at *
    generalize 2 ^ b = B at *
    have h1 : (x + s - 1) / s ≤ y ↔ x ≤ y * s := by
      rw [← Nat.lt_succ_iff, Nat.div_lt_iff_lt_mul hs, Nat.succ_mul]
      omega
    rw [h1]
    exact ⟨fun h => Nat.mul_le_mul_right _ h, fun h => Nat.le_of_mul_le_mul_right h hb⟩

abbrev Sta := List (Nat × Nat) × Nat × Nat

/-- One word more. -/
def stp (s : Option Sta) (b : Nat) : Option Sta :=
  match s with
  | none => none
  | some (W, x, a) => if rsz x a b < 2 ^ b then some (W ++ [(rsz x a b, b)], rsz x a b + 1, b) else none
/-- The words of these lengths. -/
def run (l : List Nat) : Option Sta := l.foldl stp (some ([], 0, 0))

theorem run_none : ∀ l : List Nat, l.foldl stp none = none
  | [] => rfl
  | _ :: l => run_none l
theorem run_take (l : List Nat) (k : Nat) (hk : k < l.length) : run (l.take (k + 1)) = stp (run (l.take k)) l[k] := by
  unfold run
  rw [List.take_succ_eq_append_getElem hk, List.foldl_append]
  rfl
theorem run_stops {l : List Nat} {k : Nat} (h : run (l.take k) = none) : run l = none := by
  have e : l = l.take k ++ l.drop k := (List.take_append_drop k l).symm
  unfold run at *
  rw [e, List.foldl_append, h]
  exact run_none _

/-- What is known of the words so far. -/
structure Plc (W : List (Nat × Nat)) (x a : Nat) : Prop where
  lt : ∀ p ∈ W, p.1 < 2 ^ p.2
  ahead : ∀ p ∈ W, (p.1 + 1) * 2 ^ a ≤ x * 2 ^ p.2
  last : (W = [] ∧ x = 0 ∧ a = 0) ∨ ∃ p ∈ W, p.1 + 1 = x ∧ p.2 = a
  rise : W.Pairwise fun p q => (p.1 + 1) * 2 ^ q.2 ≤ q.1 * 2 ^ p.2
  le : x ≤ 2 ^ a

theorem plc_start : Plc [] 0 0 := ⟨fun p hp => (by cases hp), fun p hp => (by cases hp), .inl ⟨rfl, rfl, rfl⟩, List.Pairwise.nil, by simp⟩

/-- Which words come behind all. -/
theorem Plc.all {W : List (Nat × Nat)} {x a b y : Nat} (h : Plc W x a) : (∀ p ∈ W, (p.1 + 1) * 2 ^ b ≤ y * 2 ^ p.2) ↔ rsz x a b ≤ y := by
  rw [rsz_le]
  constructor
  · intro hp
    rcases h.last with ⟨_, rfl, _⟩ | ⟨p, hp', h1, h2⟩
    · simp
    · have := hp p hp'
      rw [h1, h2] at this
      exact this
  · intro hy p hp
    have h1 := h.ahead p hp
    have ha : 0 < 2 ^ a := Nat.pow_pos (by omega)
    apply Nat.le_of_mul_le_mul_right _ ha
    have h2 : (p.1 + 1) * 2 ^ a * 2 ^ b ≤ x * 2 ^ p.2 * 2 ^ b := Nat.mul_le_mul_right _ h1
    have h3 : x * 2 ^ b * 2 ^ p.2 ≤ y * 2 ^ a * 2 ^ p.2 := Nat.mul_le_mul_right _ hy
    have e1 : (p.1 + 1) * 2 ^ b * 2 ^ a = (p.1 + 1) * 2 ^ a * 2 ^ b := by rw [Nat.mul_assoc, Nat.mul_comm (2 ^ b), ← Nat.mul_assoc]
    have e2 : x * 2 ^ p.2 * 2 ^ b = x * 2 ^ b * 2 ^ p.2 := by rw [Nat.mul_assoc, Nat.mul_comm (2 ^ p.2), ← Nat.mul_assoc]
    have e3 : y * 2 ^ p.2 * 2 ^ a = y * 2 ^ a * 2 ^ p.2 := by rw [Nat.mul_assoc, Nat.mul_comm (2 ^ p.2), ← Nat.mul_assoc]
    rw [e1, e3]
    rw [e2] at h2
    exact Nat.le_trans h2 h3

theorem Plc.next {W : List (Nat × Nat)} {x a b : Nat} (h : Plc W x a) (hlt : rsz x a b < 2 ^ b) : Plc (W ++ [(rsz x a b, b)]) (rsz x a b + 1) b := by
  have hall := (h.all (b := b) (y := rsz x a b)).2 (Nat.le_refl _)
  refine ⟨?_, ?_, .inr ⟨(rsz x a b, b), by simp, rfl, rfl⟩, ?_, hlt⟩
  · intro p hp
    rcases List.mem_append.1 hp with hp | hp
    · exact h.lt p hp
    · simp only [List.mem_singleton] at hp
      subst hp
      exact hlt
  · intro p hp
    rcases List.mem_append.1 hp with hp | hp
    · exact Nat.le_trans (hall p hp) (Nat.mul_le_mul_right _ (by omega))
    · simp only [List.mem_singleton] at hp
      subst hp
      exact Nat.le_refl _
  · rw [List.pairwise_append]
    refine ⟨h.rise, by simp, fun p hp q hq => ?_⟩
    simp only [List.mem_singleton] at hq
    subst hq
    exact hall p hp

/-- The words so far are of these lengths, and as they should be. -/
theorem run_plc : ∀ (l : List Nat) (W0 W : List (Nat × Nat)) (x0 a0 x a : Nat), Plc W0 x0 a0 → l.foldl stp (some (W0, x0, a0)) = some (W, x, a) → Plc W x a ∧ W.map (·.2) = W0.map (·.2) ++ l
  | [], W0, W, x0, a0, x, a, h, he => by
    simp only [List.foldl_nil, Option.some.injEq, Prod.mk.injEq] at he
    obtain ⟨rfl, rfl, rfl⟩ := he
    exact ⟨h, by simp⟩
  | b :: l, W0, W, x0, a0, x, a, h, he => by
    rw [List.foldl_cons] at he
    by_cases hlt : rsz x0 a0 b < 2 ^ b
    · have e : stp (some (W0, x0, a0)) b = some (W0 ++ [(rsz x0 a0 b, b)], rsz x0 a0 b + 1, b) := by simp [stp, hlt]
      rw [e] at he
      obtain ⟨h1, h2⟩ := run_plc l _ _ _ _ _ _ (h.next hlt) he
      exact ⟨h1, by rw [h2]; simp⟩
    · have e : stp (some (W0, x0, a0)) b = none := by simp [stp, hlt]
      rw [e, run_none] at he
      cases he

theorem run_ok {l : List Nat} {W : List (Nat × Nat)} {x a : Nat} (h : run l = some (W, x, a)) : Plc W x a ∧ W.map (·.2) = l := by
  have := run_plc l [] W 0 0 x a plc_start h
  simpa using this

/-- The lengths of a tree always fit. -/
theorem run_tree {t : List Nat} (h : AT t) : ∀ (d X : Nat) (W : List (Nat × Nat)) (x a : Nat), x * 2 ^ d = X * 2 ^ a → X < 2 ^ d →
    ∃ W' x' a', (t.map (· + d)).foldl stp (some (W, x, a)) = some (W', x', a') ∧ x' * 2 ^ d = (X + 1) * 2 ^ a' := by
  induction h with
  | leaf =>
    intro d X W x a hx hX
    have hr : rsz x a d = X := by
      apply Nat.le_antisymm
      · rw [rsz_le]; omega
      · rcases Nat.eq_zero_or_pos X with h0 | h0
        · omega
        · have : ¬ rsz x a d ≤ X - 1 := by
            rw [rsz_le, hx]
            intro h
            have := Nat.le_of_mul_le_mul_right h (Nat.pow_pos (by omega))
            omega
          omega
    exact ⟨W ++ [(X, d)], X + 1, d, by simp [stp, hr, hX], rfl⟩
  | @join u v hu hv h1 h2 =>
    intro d X W x a hx hX
    have e2 : 2 ^ (d + 1) = 2 ^ d * 2 := Nat.pow_succ _ _
    have em : (up1 (u ++ v)).map (· + d) = u.map (· + (d + 1)) ++ v.map (· + (d + 1)) := by
      have : ∀ l : List Nat, (up1 l).map (· + d) = l.map (· + (d + 1)) := by
        intro l
        unfold up1
        rw [List.map_map]
        apply List.map_congr_left
        intro i _
        show i + 1 + d = i + (d + 1)
        omega
      rw [this, List.map_append]
    rw [em, List.foldl_append]
    obtain ⟨W1, x1, a1, k1, k2⟩ := h1 (d + 1) (2 * X) W x a (by rw [e2, ← Nat.mul_assoc, hx, Nat.mul_assoc, Nat.mul_comm, Nat.mul_assoc, Nat.mul_comm]) (by omega)
    rw [k1]
    obtain ⟨W2, x2, a2, k3, k4⟩ := h2 (d + 1) (2 * X + 1) W1 x1 a1 k2 (by omega)
    refine ⟨W2, x2, a2, k3, ?_⟩
    rw [e2, ← Nat.mul_assoc] at k4
    have e3 : (2 * X + 1 + 1) * 2 ^ a2 = (X + 1) * 2 ^ a2 * 2 := by
      rw [show 2 * X + 1 + 1 = (X + 1) * 2 by omega, Nat.mul_assoc, Nat.mul_comm 2, ← Nat.mul_assoc]
    omega

theorem run_tt {n : Nat} {t : List Nat} (h : TT n t) : ∃ W x a, run t = some (W, x, a) := by
  rcases Nat.eq_zero_or_pos n with h0 | h0
  · subst h0
    rw [h.zero]
    exact ⟨[], 0, 0, rfl⟩
  · obtain ⟨W, x, a, h1, _⟩ := run_tree (h.at h0) 0 0 [] 0 0 (by simp) (by simp)
    refine ⟨W, x, a, ?_⟩
    simpa [run] using h1

end Go.Proofs.Ytakggfogoobdnaa
