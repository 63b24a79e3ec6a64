/-
  In plain mathematics: bits with a zero behind each five set ones in a row; how that is undone; what stands between flags.
-/
import Derived.Test.YtglajpmifhecgaaBase
namespace Go.Proofs.Ytglajpmifhecgaa

/-- How many set ones stand in a row with one bit more. -/
def lr (r : Nat) (b : Bool) : Nat := if b then r + 1 else 0
/-- What is made of bits where so many set ones stand ahead of them: with five a zero is owed. -/
def sf (r : Nat) : List Bool → List Bool
  | [] => if r < 5 then [] else [false]
  | b :: l => if r < 5 then b :: sf (lr r b) l else false :: b :: sf (lr 0 b) l
/-- How that is undone. -/
def br (r : Nat) : List Bool → Option (List Bool)
  | [] => if r < 5 then some [] else none
  | b :: l => if r < 5 then (br (lr r b) l).map (b :: ·) else if b then none else br 0 l
/-- In what is made no more than five set ones stand in a row. -/
def few (r : Nat) : List Bool → Prop
  | [] => True
  | b :: l => lr r b ≤ 5 ∧ few (lr r b) l

theorem sf_low {r : Nat} (h : r < 5) (b : Bool) (l : List Bool) : sf r (b :: l) = b :: sf (lr r b) l := by
  show (if r < 5 then _ else _) = _
  rw [if_pos h]
theorem sf_nil {r : Nat} (h : r < 5) : sf r [] = [] := by
  show (if r < 5 then _ else _) = _
  rw [if_pos h]
theorem sf_owed {r : Nat} (h : 5 ≤ r) (l : List Bool) : sf r l = false :: sf 0 l := by
  cases l with
  | nil => show (if r < 5 then _ else _) = false :: (if 0 < 5 then _ else _)
           rw [if_neg (by omega), if_pos (by omega)]
  | cons b l => show (if r < 5 then _ else _) = false :: (if 0 < 5 then _ else _)
                rw [if_neg (by omega), if_pos (by omega)]
theorem lr_le {r : Nat} (h : r < 5) (b : Bool) : lr r b ≤ 5 := by
  cases b
  · exact Nat.zero_le _
  · show r + 1 ≤ 5; omega

theorem br_iff : ∀ (l : List Bool) (r : Nat) (t : List Bool), br r l = some t ↔ sf r t = l
  | [], r, t => by
    show (if r < 5 then _ else _) = some t ↔ _
    by_cases h : r < 5
    · rw [if_pos h]
      cases t with
      | nil => rw [sf_nil h]; exact ⟨fun _ => rfl, fun _ => rfl⟩
      | cons b t => rw [sf_low h]; exact ⟨fun e => (by cases e), fun e => (by cases e)⟩
    · rw [if_neg h, sf_owed (by omega)]
      exact ⟨fun e => (by cases e), fun e => (by cases e)⟩
  | b :: l, r, t => by
    show (if r < 5 then _ else _) = some t ↔ _
    by_cases h : r < 5
    · rw [if_pos h]
      cases t with
      | nil =>
        rw [sf_nil h]
        constructor
        · intro e
          rcases ho : br (lr r b) l with - | t1
          · rw [ho] at e; cases e
          · rw [ho] at e; cases e
        · intro e; cases e
      | cons c t =>
        rw [sf_low h]
        constructor
        · intro e
          rcases ho : br (lr r b) l with - | t1
          · rw [ho] at e; cases e
          · rw [ho] at e
            have e1 : b :: t1 = c :: t := Option.some.inj e
            have e2 := (br_iff l (lr r b) t1).1 ho
            injection e1 with e3 e4
            rw [← e3, ← e4, e2]
        · intro e
          injection e with e3 e4
          rw [e3] at e4
          rw [(br_iff l (lr r b) t).2 e4, e3]
          rfl
    · rw [if_neg h, sf_owed (by omega)]
      cases b with
      | true =>
        rw [if_pos rfl]
        exact ⟨fun e => (by cases e), fun e => (by cases e)⟩
      | false =>
        rw [if_neg (by decide), br_iff l 0 t]
        exact ⟨fun e => (by rw [e]), fun e => (by injection e)⟩
theorem br_sf (r : Nat) (t : List Bool) : br r (sf r t) = some t := (br_iff _ _ _).2 rfl

theorem few_sf : ∀ (t : List Bool) (r : Nat), r ≤ 5 → few r (sf r t)
  | [], r, hr => by
    by_cases h : r < 5
    · rw [sf_nil h]; exact trivial
    · rw [sf_owed (by omega), sf_nil (by omega)]
      exact ⟨Nat.zero_le _, trivial⟩
  | b :: t, r, hr => by
    by_cases h : r < 5
    · rw [sf_low h]
      exact ⟨lr_le h b, few_sf t _ (lr_le h b)⟩
    · rw [sf_owed (by omega), sf_low (by omega)]
      exact ⟨Nat.zero_le _, lr_le (r := 0) (by decide) b, few_sf t _ (lr_le (r := 0) (by decide) b)⟩

/-- A flag. -/
def fl : List Bool := [false, true, true, true, true, true, true, false]
/-- Each text, and a flag behind it. -/
def fr : List (List Bool) → List Bool
  | [] => []
  | t :: ts => sf 0 t ++ fl ++ fr ts
/-- A flag ahead of them. -/
def frm (ts : List (List Bool)) : List Bool := fl ++ fr ts
theorem fr_snoc : ∀ (ts : List (List Bool)) (t : List Bool), fr (ts ++ [t]) = fr ts ++ (sf 0 t ++ fl)
  | [], t => by show sf 0 t ++ fl ++ [] = [] ++ _; rw [List.append_nil, List.nil_append]
  | u :: ts, t => by
    show sf 0 u ++ fl ++ fr (ts ++ [t]) = sf 0 u ++ fl ++ fr ts ++ _
    rw [fr_snoc ts t, List.append_assoc (sf 0 u ++ fl)]
theorem fr_app : ∀ (ts us : List (List Bool)), fr (ts ++ us) = fr ts ++ fr us
  | [], us => rfl
  | u :: ts, us => by
    show sf 0 u ++ fl ++ fr (ts ++ us) = sf 0 u ++ fl ++ fr ts ++ fr us
    rw [fr_app ts us, List.append_assoc (sf 0 u ++ fl)]

/-- So many set ones do not stand there. -/
theorem no_ones (z : List Bool) : ∀ (t : List Bool) (r : Nat), r ≤ 5 → ¬ List.replicate (6 - r) true <+: sf r t ++ (false :: z)
  | [], r, hr => by
    by_cases h : r < 5
    · rw [sf_nil h]
      obtain ⟨k, hk⟩ : ∃ k, 6 - r = k + 1 := ⟨5 - r, by omega⟩
      rw [hk, List.replicate_succ]
      rintro ⟨y, hy⟩
      injection hy with e
      cases e
    · rw [sf_owed (by omega)]
      obtain ⟨k, hk⟩ : ∃ k, 6 - r = k + 1 := ⟨5 - r, by omega⟩
      rw [hk, List.replicate_succ]
      rintro ⟨y, hy⟩
      injection hy with e
      cases e
  | b :: t, r, hr => by
    obtain ⟨k, hk⟩ : ∃ k, 6 - r = k + 1 := ⟨5 - r, by omega⟩
    by_cases h : r < 5
    · rw [sf_low h, hk, List.replicate_succ]
      rintro ⟨y, hy⟩
      injection hy with e e1
      subst e
      have hk2 : k = 6 - (r + 1) := by omega
      subst hk2
      exact no_ones z t (r + 1) (by omega) ⟨y, e1⟩
    · rw [sf_owed (by omega), hk, List.replicate_succ]
      rintro ⟨y, hy⟩
      injection hy with e
      cases e
theorem no_six (z t : List Bool) : ¬ fl.tail <+: sf 0 t ++ (fl ++ z) := by
  intro h
  refine no_ones (fl.tail ++ z) t 0 (by decide) (List.IsPrefix.trans ?_ h)
  exact ⟨[false], rfl⟩
/-- No flag stands within what is made of a text, not even if it would end behind that. -/
theorem no_flag (z : List Bool) : ∀ (t : List Bool) (r k : Nat), r ≤ 5 → k < (sf r t).length → ¬ fl <+: (sf r t ++ (fl ++ z)).drop k
  | [], r, k, hr, hk => by
    by_cases h : r < 5
    · rw [sf_nil h] at hk; exact absurd hk (Nat.not_lt_zero _)
    · rw [sf_owed (by omega), sf_nil (by decide)] at hk ⊢
      have hk0 : k = 0 := by simp at hk; omega
      subst hk0
      rintro ⟨y, hy⟩
      have hy : fl ++ y = false :: ([] ++ (fl ++ z)) := hy
      injection hy with e e1
      injection e1 with e2
      cases e2
  | b :: t, r, k, hr, hk => by
    by_cases h : r < 5
    · rw [sf_low h] at hk ⊢
      cases k with
      | zero =>
        rintro ⟨y, hy⟩
        injection hy with e e1
        subst e
        exact no_six z t ⟨y, e1⟩
      | succ k => exact no_flag z t (lr r b) k (lr_le h b) (Nat.lt_of_succ_lt_succ hk)
    · rw [sf_owed (by omega)] at hk ⊢
      cases k with
      | zero =>
        rintro ⟨y, hy⟩
        injection hy with e e1
        exact no_six z (b :: t) ⟨y, e1⟩
      | succ k =>
        rw [sf_low (by decide)] at hk ⊢
        cases k with
        | zero =>
          rintro ⟨y, hy⟩
          injection hy with e e1
          subst e
          exact no_six z t ⟨y, e1⟩
        | succ k => exact no_flag z t (lr 0 b) k (lr_le (by decide) b) (Nat.lt_of_succ_lt_succ (Nat.lt_of_succ_lt_succ hk))

/-- A flag begins there. -/
def flAt (l : List Bool) (k : Nat) : Prop := fl <+: l.drop k
theorem flAt_here (t z : List Bool) : flAt (sf 0 t ++ (fl ++ z)) (sf 0 t).length := by
  show fl <+: _
  rw [List.drop_left]
  exact ⟨z, rfl⟩
theorem flAt_le {l : List Bool} {k : Nat} (h : flAt l k) : k + 8 ≤ l.length := by
  have e := h.length_le
  rw [List.length_drop] at e
  have e8 : fl.length = 8 := rfl
  omega
/-- The first flag stands behind the text. -/
theorem flAt_first {t z : List Bool} {e : Nat} (h : flAt (sf 0 t ++ (fl ++ z)) e) (h1 : ∀ k, k < e → ¬ flAt (sf 0 t ++ (fl ++ z)) k) : e = (sf 0 t).length := by
  rcases Nat.lt_trichotomy e (sf 0 t).length with a | a | a
  · exact absurd h (no_flag z t 0 e (by decide) a)
  · exact a
  · exact absurd (flAt_here t z) (h1 _ a)
theorem sf_inj {r : Nat} {t u : List Bool} (h : sf r t = sf r u) : t = u := by
  have a := br_sf r t
  rw [h, br_sf r u] at a
  exact (Option.some.inj a).symm
theorem fr_inj : ∀ (ts us : List (List Bool)), fr ts = fr us → ts = us
  | [], [], _ => rfl
  | [], u :: us, h => by
    have e : (0 : Nat) = (sf 0 u ++ fl ++ fr us).length := congrArg List.length h
    rw [List.length_append, List.length_append] at e
    have e8 : fl.length = 8 := rfl
    omega
  | t :: ts, [], h => by
    have e : (sf 0 t ++ fl ++ fr ts).length = (0 : Nat) := congrArg List.length h
    rw [List.length_append, List.length_append] at e
    have e8 : fl.length = 8 := rfl
    omega
  | t :: ts, u :: us, h => by
    have h : sf 0 t ++ fl ++ fr ts = sf 0 u ++ fl ++ fr us := h
    rw [List.append_assoc, List.append_assoc] at h
    have e : (sf 0 t).length = (sf 0 u).length := by
      refine flAt_first (t := u) (z := fr us) (h ▸ flAt_here t (fr ts)) fun k hk => ?_
      rw [← h]
      exact no_flag (fr ts) t 0 k (by decide) hk
    obtain ⟨e1, e2⟩ := List.append_inj h e
    have e3 : fr ts = fr us := List.append_cancel_left e2
    rw [sf_inj e1, fr_inj ts us e3]
theorem frm_inj {ts us : List (List Bool)} (h : frm ts = frm us) : ts = us := fr_inj _ _ (List.append_cancel_left h)
end Go.Proofs.Ytglajpmifhecgaa
