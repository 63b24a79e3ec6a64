/-
  Words that rise, in plain mathematics: of lengths that stand at places behind one another there is a tree that is no deeper; so one bit more each suffices (Gilbert, Moore), and none, where the weights rise (Garsia, Wachs).
-/
import Derived.Test.YtakggfogoobdnaaAlp
import Derived.Test.YtakggfogoobdnaaAlf
namespace Go.Proofs.Ytakggfogoobdnaa

/-- The room that lengths take. -/
def ks (l : List Nat) : Nat := (l.map fun x => 2 ^ (8 - x)).sum
@[simp] theorem ks_nil : ks [] = 0 := rfl
@[simp] theorem ks_cons (x : Nat) (l : List Nat) : ks (x :: l) = 2 ^ (8 - x) + ks l := by simp [ks]
theorem ks_append (a b : List Nat) : ks (a ++ b) = ks a + ks b := by simp [ks]

theorem ks_up : ∀ l : List Nat, (∀ x ∈ l, x + 1 ≤ 8) → 2 * ks (up1 l) = ks l
  | [], _ => rfl
  | x :: l, h => by
    have ih := ks_up l (fun y hy => h y (by simp [hy]))
    have hx := h x (by simp)
    rw [up1_cons, ks_cons, ks_cons, Nat.mul_add, ih, show 8 - x = (8 - (x + 1)) + 1 by omega, Nat.pow_succ]
    omega

theorem AT.kraft {l : List Nat} (h : AT l) : (∀ x ∈ l, x ≤ 8) → ks l = 256 := by
  induction h with
  | leaf => intro _; simp
  | @join a b ha hb h1 h2 =>
    intro h8
    have hb' : ∀ x ∈ a ++ b, x + 1 ≤ 8 := fun x hx => h8 (x + 1) (List.mem_map.2 ⟨x, hx, rfl⟩)
    have e := ks_up (a ++ b) hb'
    have e1 := h1 (fun x hx => by have := hb' x (by simp [hx]); omega)
    have e2 := h2 (fun x hx => by have := hb' x (by simp [hx]); omega)
    rw [ks_append, e1, e2] at e
    omega

/-- Each is no deeper, by d, than what stands there. -/
def Under (d : Nat) : List Nat → List (Nat × Nat) → Prop
  | [], [] => True
  | x :: t, p :: P => x + d ≤ p.2 ∧ Under d t P
  | _, _ => False

theorem Under.len {d : Nat} : ∀ {t : List Nat} {P : List (Nat × Nat)}, Under d t P → t.length = P.length
  | [], [], _ => rfl
  | _ :: _, _ :: _, h => by simp [Under.len h.2]
  | [], _ :: _, h => h.elim
  | _ :: _, [], h => h.elim
theorem Under.append {d : Nat} : ∀ {t s : List Nat} {P Q : List (Nat × Nat)}, Under d t P → Under d s Q → Under d (t ++ s) (P ++ Q)
  | [], _, [], _, _, h => h
  | _ :: _, _, _ :: _, _, h, k => ⟨h.1, Under.append h.2 k⟩
  | [], _, _ :: _, _, h, _ => h.elim
  | _ :: _, _, [], _, h, _ => h.elim
theorem Under.up {d : Nat} : ∀ {t : List Nat} {P : List (Nat × Nat)}, Under (d + 1) t P → Under d (up1 t) P
  | [], [], _ => trivial
  | x :: _, p :: _, h => ⟨by have := h.1; show x + 1 + d ≤ p.2; omega, Under.up h.2⟩
  | [], _ :: _, h => h.elim
  | _ :: _, [], h => h.elim
theorem Under.weaken {d : Nat} : ∀ {t : List Nat} {P : List (Nat × Nat)}, Under (d + 1) t P → Under d t P
  | [], [], _ => trivial
  | _ :: _, _ :: _, h => ⟨by have := h.1; omega, Under.weaken h.2⟩
  | [], _ :: _, h => h.elim
  | _ :: _, [], h => h.elim
theorem Under.dot : ∀ {v t : List Nat} {P : List (Nat × Nat)}, Under 0 t P → Go.Proofs.Ytakggfogoobdnaa.dot v t ≤ Go.Proofs.Ytakggfogoobdnaa.dot v (P.map (·.2))
  | [], _, _, _ => by simp
  | _ :: _, [], [], _ => by simp
  | w :: v, x :: t, p :: P, h => by
    have ih := Under.dot (v := v) h.2
    have := Nat.mul_le_mul_left w h.1
    simp only [List.map_cons, dot_cons]
    simp only [Nat.add_zero] at this
    omega
  | _ :: _, [], _ :: _, h => h.elim
  | _ :: _, _ :: _, [], h => h.elim

/-- Words of P stand at places of their own length, in the room of size 2 ^ m from lo on. -/
structure Fits (m lo : Nat) (P : List (Nat × Nat)) : Prop where
  le : ∀ p ∈ P, p.2 ≤ 8
  low : ∀ p ∈ P, lo ≤ p.1
  hi : ∀ p ∈ P, p.1 + 2 ^ (8 - p.2) ≤ lo + 2 ^ m
  at_ : ∀ p ∈ P, 2 ^ (8 - p.2) ∣ p.1
  rise : P.Pairwise fun p q => p.1 + 2 ^ (8 - p.2) ≤ q.1

theorem cut_at (c : Nat) : ∀ P : List (Nat × Nat), (P.Pairwise fun p q => p.1 + 2 ^ (8 - p.2) ≤ q.1) → ∃ A B, P = A ++ B ∧ (∀ p ∈ A, p.1 < c) ∧ ∀ p ∈ B, c ≤ p.1
  | [], _ => ⟨[], [], rfl, fun p hp => (by cases hp), fun p hp => (by cases hp)⟩
  | p :: P, h => by
    rw [List.pairwise_cons] at h
    by_cases hc : p.1 < c
    · obtain ⟨A, B, h1, h2, h3⟩ := cut_at c P h.2
      refine ⟨p :: A, B, by rw [h1]; rfl, ?_, h3⟩
      intro q hq
      rcases List.mem_cons.1 hq with rfl | hq
      · exact hc
      · exact h2 q hq
    · refine ⟨[], p :: P, rfl, fun q hq => (by cases hq), ?_⟩
      intro q hq
      rcases List.mem_cons.1 hq with rfl | hq
      · omega
      · have := h.1 q hq
        generalize 2 ^ (8 - p.2) = e at this
        omega

theorem pow_lt_of {a b : Nat} (h : 2 ^ a < 2 ^ b) : a < b := (Nat.pow_lt_pow_iff_right (by omega)).1 h
theorem pow_le_of {a b : Nat} (h : 2 ^ a ≤ 2 ^ b) : a ≤ b := (Nat.pow_le_pow_iff_right (by omega)).1 h

theorem place : ∀ (m d lo : Nat) (P : List (Nat × Nat)), d + m = 8 → P ≠ [] → 2 ^ m ∣ lo → Fits m lo P → ∃ t, AT t ∧ Under d t P
  | m, d, lo, [p], hd, _, _, hf => by
    refine ⟨[0], .leaf, ?_, trivial⟩
    have h1 := hf.hi p (by simp)
    have h2 := hf.low p (by simp)
    have h3 := hf.le p (by simp)
    have := pow_le_of (a := 8 - p.2) (b := m) (by omega)
    omega
  | 0, d, lo, p :: q :: R, hd, _, _, hf => by
    exfalso
    have h1 := hf.low p (by simp)
    have h2 := hf.hi q (by simp)
    have h3 := (List.pairwise_cons.1 hf.rise).1 q (by simp)
    have h4 : 0 < 2 ^ (8 - p.2) := Nat.pow_pos (by omega)
    have h5 : 0 < 2 ^ (8 - q.2) := Nat.pow_pos (by omega)
    simp at h2
    omega
  | m + 1, d, lo, p :: q :: R, hd, _, hlo, hf => by
    have hsmall : ∀ r ∈ p :: q :: R, 8 - r.2 ≤ m := by
      have key : ∀ r ∈ p :: q :: R, 2 ^ (8 - r.2) < 2 ^ (m + 1) := by
        intro r hr
        have h1 := hf.low p (by simp)
        rcases List.mem_cons.1 hr with rfl | hr'
        · have h2 := hf.hi q (by simp)
          have h3 := (List.pairwise_cons.1 hf.rise).1 q (by simp)
          have h5 : 0 < 2 ^ (8 - q.2) := Nat.pow_pos (by omega)
          omega
        · have h2 := hf.hi r hr
          have h3 := (List.pairwise_cons.1 hf.rise).1 r hr'
          have h5 : 0 < 2 ^ (8 - p.2) := Nat.pow_pos (by omega)
          omega
      intro r hr
      have := pow_lt_of (key r hr)
      omega
    have hlom : 2 ^ m ∣ lo := Nat.dvd_trans (Nat.pow_dvd_pow 2 (by omega)) hlo
    have hmid : 2 ^ m ∣ lo + 2 ^ m := (Nat.dvd_add hlom (Nat.dvd_refl _))
    have hhalf : ∀ r ∈ p :: q :: R, r.1 < lo + 2 ^ m → r.1 + 2 ^ (8 - r.2) ≤ lo + 2 ^ m := by
      intro r hr hlt
      have d1 : 2 ^ (8 - r.2) ∣ lo + 2 ^ m := Nat.dvd_trans (Nat.pow_dvd_pow 2 (hsmall r hr)) hmid
      obtain ⟨a, ha⟩ := hf.at_ r hr
      obtain ⟨b, hb⟩ := d1
      rw [ha, hb] at hlt ⊢
      have : a < b := Nat.lt_of_mul_lt_mul_left hlt
      have := Nat.mul_le_mul_left (2 ^ (8 - r.2)) (show a + 1 ≤ b by omega)
      rw [Nat.mul_add, Nat.mul_one] at this
      exact this
    obtain ⟨A, B, hAB, hA, hB⟩ := cut_at (lo + 2 ^ m) (p :: q :: R) hf.rise
    have hpw := hf.rise
    rw [hAB, List.pairwise_append] at hpw
    have memA : ∀ r ∈ A, r ∈ p :: q :: R := fun r hr => by rw [hAB]; simp [hr]
    have memB : ∀ r ∈ B, r ∈ p :: q :: R := fun r hr => by rw [hAB]; simp [hr]
    have h2m : 2 ^ (m + 1) = 2 ^ m + 2 ^ m := by rw [Nat.pow_succ]; omega
    have fA : Fits m lo A := ⟨fun r hr => hf.le r (memA r hr), fun r hr => hf.low r (memA r hr), fun r hr => hhalf r (memA r hr) (hA r hr), fun r hr => hf.at_ r (memA r hr), hpw.1⟩
    have fB : Fits m (lo + 2 ^ m) B := ⟨fun r hr => hf.le r (memB r hr), fun r hr => hB r hr, fun r hr => by have := hf.hi r (memB r hr); omega, fun r hr => hf.at_ r (memB r hr), hpw.2.1⟩
    rw [hAB]
    match A, B, hAB, fA, fB with
    | [], B, hAB, _, fB =>
      have hne : B ≠ [] := by rintro rfl; simp at hAB
      obtain ⟨t, h1, h2⟩ := place m (d + 1) (lo + 2 ^ m) B (by omega) hne hmid fB
      exact ⟨t, h1, h2.weaken⟩
    | a :: A, [], _, fA, _ =>
      obtain ⟨t, h1, h2⟩ := place m (d + 1) lo (a :: A) (by omega) (by simp) hlom fA
      exact ⟨t, h1, by rw [List.append_nil]; exact h2.weaken⟩
    | a :: A, b :: B, _, fA, fB =>
      obtain ⟨t, h1, h2⟩ := place m (d + 1) lo (a :: A) (by omega) (by simp) hlom fA
      obtain ⟨s, h3, h4⟩ := place m (d + 1) (lo + 2 ^ m) (b :: B) (by omega) (by simp) hmid fB
      exact ⟨up1 (t ++ s), .join h1 h3, (h2.append h4).up⟩

theorem place0 {P : List (Nat × Nat)} (hne : P ≠ []) (h : Fits 8 0 P) : ∃ t, TT P.length t ∧ Under 0 t P := by
  obtain ⟨t, h1, h2⟩ := place 8 0 0 P (by omega) hne (by simp) h
  exact ⟨t, ⟨h2.len, .inr h1⟩, h2⟩

end Go.Proofs.Ytakggfogoobdnaa
