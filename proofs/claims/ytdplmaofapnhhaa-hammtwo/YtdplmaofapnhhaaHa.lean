/-
  In plain mathematics: bits at numbered places, the pointer, the data among them, and what is put for data.
-/
import Derived.WalkKit
namespace Go.Proofs.Ytdplmaofapnhhaa

/-- No data stand at the place of this number: a power of 2. -/
def isC (p : Nat) : Bool := p &&& (p - 1) == 0

/-- The pointer: the sum of the set places' numbers, the first of which is k. -/
def pf : Nat → List Bool → Nat
  | _, [] => 0
  | k, b :: l => (if b then k else 0) ^^^ pf (k + 1) l

/-- The data: what stands at the places that are no power of 2. -/
def dt : Nat → List Bool → List Bool
  | _, [] => []
  | k, b :: l => if isC k then dt (k + 1) l else b :: dt (k + 1) l

/-- Bits at n places from k on: at a power of 2 what c says, at the others the data in order. -/
def mg : Nat → Nat → (Nat → Bool) → List Bool → List Bool
  | _, 0, _, _ => []
  | k, n + 1, c, d => if isC k then c k :: mg (k + 1) n c d else d.headD false :: mg (k + 1) n c d.tail

/-- The sum of those powers of 2 of which c is true. -/
def cx : Nat → Nat → (Nat → Bool) → Nat
  | _, 0, _ => 0
  | k, n + 1, c => (if isC k && c k then k else 0) ^^^ cx (k + 1) n c

/-- How many of the n places from k on have data. -/
def nd : Nat → Nat → Nat
  | _, 0 => 0
  | k, n + 1 => (if isC k then 0 else 1) + nd (k + 1) n

theorem mg_len : ∀ n k c d, (mg k n c d).length = n
  | 0, _, _, _ => rfl
  | n + 1, k, c, d => by
    unfold mg
    split <;> simp [mg_len n]

theorem dt_len : ∀ l k, (dt k l).length = nd k l.length
  | [], _ => rfl
  | b :: l, k => by
    show (if isC k then dt (k + 1) l else b :: dt (k + 1) l).length = (if isC k then 0 else 1) + nd (k + 1) l.length
    split
    · rw [dt_len l]; omega
    · rw [List.length_cons, dt_len l]; omega

theorem dt_mg : ∀ n k c d, d.length = nd k n → dt k (mg k n c d) = d
  | 0, k, c, d, h => by
    have : d = [] := List.eq_nil_of_length_eq_zero h
    rw [this]; rfl
  | n + 1, k, c, d, h => by
    have h' : d.length = (if isC k then 0 else 1) + nd (k + 1) n := h
    unfold mg
    by_cases hc : isC k = true
    · rw [if_pos hc] at h' ⊢
      show (if isC k then dt (k + 1) (mg (k + 1) n c d) else _) = d
      rw [if_pos hc]
      exact dt_mg n (k + 1) c d (by omega)
    · rw [if_neg hc] at h' ⊢
      show (if isC k then _ else d.headD false :: dt (k + 1) (mg (k + 1) n c d.tail)) = d
      rw [if_neg hc]
      cases d with
      | nil => simp at h'; omega
      | cons a d =>
        simp only [List.length_cons] at h'
        rw [List.tail_cons, dt_mg n (k + 1) c d (by omega)]
        rfl

theorem mg_dt : ∀ l k c, (∀ i, i < l.length → isC (k + i) = true → c (k + i) = l.getD i false) → mg k l.length c (dt k l) = l
  | [], _, _, _ => rfl
  | b :: l, k, c, h => by
    have h0 := h 0 (by simp)
    have hs : ∀ i, i < l.length → isC (k + 1 + i) = true → c (k + 1 + i) = l.getD i false := fun i hi hc => by
      have := h (i + 1) (by simp; omega) (by rw [show k + (i + 1) = k + 1 + i by omega]; exact hc)
      rw [show k + (i + 1) = k + 1 + i by omega] at this
      simpa using this
    show (if isC k then c k :: mg (k + 1) l.length c (dt k (b :: l)) else (dt k (b :: l)).headD false :: mg (k + 1) l.length c (dt k (b :: l)).tail) = b :: l
    by_cases hc : isC k = true
    · have e : dt k (b :: l) = dt (k + 1) l := by show (if isC k then _ else _) = _; rw [if_pos hc]
      rw [if_pos hc, e, mg_dt l (k + 1) c hs, show c k = b by simpa using h0 hc]
    · have e : dt k (b :: l) = b :: dt (k + 1) l := by show (if isC k then _ else _) = _; rw [if_neg hc]
      rw [if_neg hc, e, List.tail_cons, mg_dt l (k + 1) c hs]
      rfl

theorem pf_mg : ∀ n k c d, pf k (mg k n c d) = pf k (mg k n (fun _ => false) d) ^^^ cx k n c
  | 0, _, _, _ => by simp [mg, pf, cx]
  | n + 1, k, c, d => by
    unfold mg cx
    by_cases hc : isC k = true
    · rw [if_pos hc, if_pos hc, hc, Bool.true_and]
      show (if c k then k else 0) ^^^ pf (k + 1) (mg (k + 1) n c d) = ((if false = true then k else 0) ^^^ pf (k + 1) (mg (k + 1) n (fun _ => false) d)) ^^^ ((if c k then k else 0) ^^^ cx (k + 1) n c)
      rw [pf_mg n (k + 1) c d]
      generalize (if c k then k else 0) = A
      generalize pf (k + 1) (mg (k + 1) n (fun _ => false) d) = B
      generalize cx (k + 1) n c = C
      rw [if_neg (by decide), Nat.zero_xor, ← Nat.xor_assoc, ← Nat.xor_assoc, Nat.xor_comm A B]
    · rw [if_neg hc, if_neg hc, show isC k = false by simpa using hc, Bool.false_and, if_neg (by decide), Nat.zero_xor]
      show (if d.headD false then k else 0) ^^^ pf (k + 1) (mg (k + 1) n c d.tail) = ((if d.headD false then k else 0) ^^^ pf (k + 1) (mg (k + 1) n (fun _ => false) d.tail)) ^^^ cx (k + 1) n c
      rw [pf_mg n (k + 1) c d.tail, Nat.xor_assoc]

theorem pf_lt (m : Nat) : ∀ l k, k + l.length ≤ 2 ^ m → pf k l < 2 ^ m
  | [], _, _ => Nat.two_pow_pos m
  | b :: l, k, h => by
    simp only [List.length_cons] at h
    have := pf_lt m l (k + 1) (by omega)
    show (if b then k else 0) ^^^ pf (k + 1) l < 2 ^ m
    refine Nat.xor_lt_two_pow ?_ this
    split
    · omega
    · exact Nat.two_pow_pos m

/-- One bit turned: the pointer is moved by the number of its place. -/
theorem pf_turn : ∀ l k i, i < l.length → pf k (l.set i (!(l.getD i false))) = pf k l ^^^ (k + i)
  | [], _, _, h => by simp at h
  | b :: l, k, 0, _ => by
    show (if (!b) then k else 0) ^^^ pf (k + 1) l = ((if b then k else 0) ^^^ pf (k + 1) l) ^^^ k
    generalize pf (k + 1) l = A
    cases b
    · simp [Nat.xor_comm]
    · simp only [Bool.not_true, Bool.false_eq_true, if_false, if_true]
      rw [Nat.xor_comm k A, Nat.xor_assoc, Nat.xor_self, Nat.xor_zero, Nat.zero_xor]
  | b :: l, k, i + 1, h => by
    have h' : i < l.length := by simpa using h
    show (if b then k else 0) ^^^ pf (k + 1) (l.set i (!((b :: l).getD (i + 1) false))) = ((if b then k else 0) ^^^ pf (k + 1) l) ^^^ (k + (i + 1))
    rw [show (b :: l).getD (i + 1) false = l.getD i false by simp, pf_turn l (k + 1) i h', Nat.xor_assoc, show k + 1 + i = k + (i + 1) by omega]

theorem turn_turn (l : List Bool) (i : Nat) (h : i < l.length) : (l.set i (!(l.getD i false))).set i (!((l.set i (!(l.getD i false))).getD i false)) = l := by
  rw [List.getD_eq_getElem?_getD (l := l.set i _), List.getElem?_set_self h, Option.getD_some, Bool.not_not, List.set_set, List.getD_eq_getElem?_getD, List.getElem?_eq_getElem h, Option.getD_some]
  exact List.set_getElem_self h

/-- What stands at all places, the bit that the pointer tells turned. -/
def fx (l : List Bool) : List Bool := if pf 1 l = 0 then l else l.set (pf 1 l - 1) (!(l.getD (pf 1 l - 1) false))

theorem fx_len (l : List Bool) : (fx l).length = l.length := by unfold fx; split <;> simp

/-- Whether an odd number of bits is set. -/
def ob : List Bool → Bool
  | [] => false
  | b :: l => b != ob l

theorem ob_append : ∀ l m, ob (l ++ m) = (ob l != ob m)
  | [], m => by simp [ob]
  | b :: l, m => by
    show (b != ob (l ++ m)) = ((b != ob l) != ob m)
    rw [ob_append l m]
    cases b <;> cases ob l <;> cases ob m <;> rfl
theorem ob_turn : ∀ l i, i < l.length → ob (l.set i (!(l.getD i false))) = !ob l
  | [], _, h => by simp at h
  | b :: l, 0, _ => by
    show ((!b) != ob l) = !(b != ob l)
    cases b <;> cases ob l <;> rfl
  | b :: l, i + 1, h => by
    have h' : i < l.length := by simpa using h
    show (b != ob (l.set i (!((b :: l).getD (i + 1) false)))) = !(b != ob l)
    rw [show (b :: l).getD (i + 1) false = l.getD i false by simp, ob_turn l i h']
    cases b <;> cases ob l <;> rfl

/-- How many bits are put beside the data. -/
def R (r : Nat) : Prop := 2 ≤ r ∧ r ≤ 4
theorem R.cases {r : Nat} (h : R r) : r = 2 ∨ r = 3 ∨ r = 4 := by unfold R at h; omega

theorem nd_all {r : Nat} (h : R r) : nd 1 (2 ^ r - 1) = 2 ^ r - 1 - r := by
  obtain rfl | rfl | rfl := h.cases <;> decide

theorem xb (b : Bool) (k : Nat) : (if b then k else 0) = bif b then k else 0 := by cases b <;> rfl
theorem cx_bit {r : Nat} (h : R r) (c : Nat → Bool) (x : Nat) (hx : x < 2 ^ r) : cx 1 (2 ^ r - 1) c = x ↔ ∀ i, i < r → c (2 ^ i) = x.testBit i := by
  have e2 : cx 1 3 c = (bif c 1 then 1 else 0) ^^^ (bif c 2 then 2 else 0) := by
    simp [cx, show isC 1 = true by decide, show isC 2 = true by decide, show isC 3 = false by decide, xb]
  have e3 : cx 1 7 c = (bif c 1 then 1 else 0) ^^^ ((bif c 2 then 2 else 0) ^^^ (bif c 4 then 4 else 0)) := by
    simp [cx, show isC 1 = true by decide, show isC 2 = true by decide, show isC 3 = false by decide, show isC 4 = true by decide, show isC 5 = false by decide, show isC 6 = false by decide, show isC 7 = false by decide, xb]
  have e4 : cx 1 15 c = (bif c 1 then 1 else 0) ^^^ ((bif c 2 then 2 else 0) ^^^ ((bif c 4 then 4 else 0) ^^^ (bif c 8 then 8 else 0))) := by
    simp [cx, show isC 1 = true by decide, show isC 2 = true by decide, show isC 3 = false by decide, show isC 4 = true by decide, show isC 5 = false by decide, show isC 6 = false by decide, show isC 7 = false by decide, show isC 8 = true by decide, show isC 9 = false by decide, show isC 10 = false by decide, show isC 11 = false by decide, show isC 12 = false by decide, show isC 13 = false by decide, show isC 14 = false by decide, show isC 15 = false by decide, xb]
  have a2 : ∀ a b : Bool, ∀ x : Fin 4, ((bif a then 1 else 0) ^^^ (bif b then 2 else 0) = x.1) ↔ (a = x.1.testBit 0 ∧ b = x.1.testBit 1) := by decide
  have a3 : ∀ a b d : Bool, ∀ x : Fin 8, ((bif a then 1 else 0) ^^^ ((bif b then 2 else 0) ^^^ (bif d then 4 else 0)) = x.1) ↔ (a = x.1.testBit 0 ∧ b = x.1.testBit 1 ∧ d = x.1.testBit 2) := by decide
  have a4 : ∀ a b d f : Bool, ∀ x : Fin 16, ((bif a then 1 else 0) ^^^ ((bif b then 2 else 0) ^^^ ((bif d then 4 else 0) ^^^ (bif f then 8 else 0))) = x.1) ↔ (a = x.1.testBit 0 ∧ b = x.1.testBit 1 ∧ d = x.1.testBit 2 ∧ f = x.1.testBit 3) := by decide
  obtain rfl | rfl | rfl := h.cases
  · show cx 1 3 c = x ↔ _
    rw [e2, a2 (c 1) (c 2) ⟨x, hx⟩]
    constructor
    · rintro ⟨h0, h1⟩ i hi
      obtain rfl | rfl : i = 0 ∨ i = 1 := by omega
      · exact h0
      · exact h1
    · exact fun h => ⟨h 0 (by omega), h 1 (by omega)⟩
  · show cx 1 7 c = x ↔ _
    rw [e3, a3 (c 1) (c 2) (c 4) ⟨x, hx⟩]
    constructor
    · rintro ⟨h0, h1, h2⟩ i hi
      obtain rfl | rfl | rfl : i = 0 ∨ i = 1 ∨ i = 2 := by omega
      · exact h0
      · exact h1
      · exact h2
    · exact fun h => ⟨h 0 (by omega), h 1 (by omega), h 2 (by omega)⟩
  · show cx 1 15 c = x ↔ _
    rw [e4, a4 (c 1) (c 2) (c 4) (c 8) ⟨x, hx⟩]
    constructor
    · rintro ⟨h0, h1, h2, h3⟩ i hi
      obtain rfl | rfl | rfl | rfl : i = 0 ∨ i = 1 ∨ i = 2 ∨ i = 3 := by omega
      · exact h0
      · exact h1
      · exact h2
      · exact h3
    · exact fun h => ⟨h 0 (by omega), h 1 (by omega), h 2 (by omega), h 3 (by omega)⟩

/-- The power of 2 of a place without data tells which bit it is. -/
def lg (p : Nat) : Nat := if p < 2 then 0 else if p < 4 then 1 else if p < 8 then 2 else 3
theorem isC_lg {r : Nat} (h : R r) {p : Nat} (h1 : 1 ≤ p) (h2 : p < 2 ^ r) (hc : isC p = true) : p = 2 ^ lg p ∧ lg p < r := by
  have a : ∀ r : Fin 5, ∀ p : Fin 16, 1 ≤ p.1 → p.1 < 2 ^ r.1 → isC p.1 = true → p.1 = 2 ^ lg p.1 ∧ lg p.1 < r.1 := by decide
  have : 2 ^ r ≤ 2 ^ 4 := Nat.pow_le_pow_right (by omega) h.2
  exact a ⟨r, by have := h.2; omega⟩ ⟨p, by omega⟩ h1 h2 hc
theorem lg_two {i : Nat} (h : i < 4) : lg (2 ^ i) = i ∧ isC (2 ^ i) = true := by
  have a : ∀ i : Fin 4, lg (2 ^ i.1) = i.1 ∧ isC (2 ^ i.1) = true := by decide
  exact a ⟨i, h⟩

/-- The data at their places, nothing at the others. -/
def mb (r : Nat) (d : List Bool) : List Bool := mg 1 (2 ^ r - 1) (fun _ => false) d
/-- The data at their places, the bits of x at the others. -/
def mx (r x : Nat) (d : List Bool) : List Bool := mg 1 (2 ^ r - 1) (fun p => x.testBit (lg p)) d
/-- What is put for the data. -/
def hp (r : Nat) (d : List Bool) : List Bool := mx r (pf 1 (mb r d)) d

theorem mb_lt {r : Nat} (d : List Bool) : pf 1 (mb r d) < 2 ^ r := by
  have := Nat.two_pow_pos r
  exact pf_lt r _ 1 (by unfold mb; rw [mg_len]; omega)

theorem cx_mx {r : Nat} (h : R r) (c : Nat → Bool) (x : Nat) (hx : x < 2 ^ r) (hc : ∀ i, i < r → c (2 ^ i) = x.testBit i) : cx 1 (2 ^ r - 1) c = x := (cx_bit h c x hx).2 hc

theorem pf_mx {r : Nat} (h : R r) (x : Nat) (hx : x < 2 ^ r) (d : List Bool) : pf 1 (mx r x d) = pf 1 (mb r d) ^^^ x := by
  show pf 1 (mg 1 _ _ _) = _
  rw [pf_mg, cx_mx h _ x hx (fun i hi => by rw [(lg_two (by have := h.2; omega)).1])]
  rfl
theorem mx_zero {r : Nat} (h : R r) {x : Nat} (hx : x < 2 ^ r) {d : List Bool} : pf 1 (mx r x d) = 0 ↔ x = pf 1 (mb r d) := by
  rw [pf_mx h x hx]
  constructor
  · intro e
    have := congrArg (fun y => pf 1 (mb r d) ^^^ y) e
    simpa [← Nat.xor_assoc, Nat.xor_self] using this
  · rintro rfl
    exact Nat.xor_self _
theorem pf_hp {r : Nat} (h : R r) (d : List Bool) : pf 1 (hp r d) = 0 := (mx_zero h (mb_lt d)).2 rfl
theorem hp_len (r : Nat) (d : List Bool) : (hp r d).length = 2 ^ r - 1 := mg_len _ _ _ _
theorem dt_hp {r : Nat} (h : R r) (d : List Bool) (hd : d.length = 2 ^ r - 1 - r) : dt 1 (hp r d) = d := dt_mg _ _ _ _ (by rw [nd_all h, hd])

/-- Bits with the pointer 0 are what is put for their data. -/
theorem hp_dt {r : Nat} (h : R r) (l : List Bool) (hl : l.length = 2 ^ r - 1) (h0 : pf 1 l = 0) : hp r (dt 1 l) = l := by
  have e : mg 1 (2 ^ r - 1) (fun p => l.getD (p - 1) false) (dt 1 l) = l := by
    rw [← hl]
    exact mg_dt l 1 _ (fun i _ _ => by rw [show 1 + i - 1 = i by omega])
  have e1 := pf_mg (2 ^ r - 1) 1 (fun p => l.getD (p - 1) false) (dt 1 l)
  rw [e, h0] at e1
  have e2 : cx 1 (2 ^ r - 1) (fun p => l.getD (p - 1) false) = pf 1 (mb r (dt 1 l)) := by
    have := congrArg (fun y => pf 1 (mb r (dt 1 l)) ^^^ y) e1
    simp only [Nat.xor_zero, mb, ← Nat.xor_assoc, Nat.xor_self, Nat.zero_xor] at this
    exact this.symm
  have e3 := (cx_bit h _ _ (mb_lt (dt 1 l))).1 e2
  show mg 1 (2 ^ r - 1) _ _ = l
  have := mg_dt l 1 (fun p => (pf 1 (mb r (dt 1 l))).testBit (lg p)) (fun i hi hc => by
    obtain ⟨q1, q2⟩ := isC_lg h (p := 1 + i) (by omega) (by omega) hc
    have := e3 (lg (1 + i)) q2
    rw [← q1] at this
    show Nat.testBit _ (lg (1 + i)) = _
    rw [← this, show 1 + i - 1 = i by omega])
  rw [hl] at this
  exact this

/-- With one bit turned the pointer tells which, and what was put comes again. -/
theorem fx_turn {r : Nat} (h : R r) (d : List Bool) (i : Nat) (hi : i < 2 ^ r - 1) : pf 1 ((hp r d).set i (!((hp r d).getD i false))) = i + 1 ∧ fx ((hp r d).set i (!((hp r d).getD i false))) = hp r d := by
  have e : pf 1 ((hp r d).set i (!((hp r d).getD i false))) = i + 1 := by
    rw [pf_turn _ _ _ (by rw [hp_len]; exact hi), pf_hp h, Nat.zero_xor]; omega
  refine ⟨e, ?_⟩
  unfold fx
  rw [e, if_neg (by omega), show i + 1 - 1 = i by omega]
  exact turn_turn _ _ (by rw [hp_len]; exact hi)
theorem fx_hp {r : Nat} (h : R r) (d : List Bool) : fx (hp r d) = hp r d := if_pos (pf_hp h d)

theorem pf_fx {r : Nat} (l : List Bool) (hl : l.length = 2 ^ r - 1) : pf 1 (fx l) = 0 := by
  have := Nat.two_pow_pos r
  have hlt := pf_lt r l 1 (by omega)
  unfold fx
  split
  · assumption
  · rw [pf_turn _ _ _ (by omega), show 1 + (pf 1 l - 1) = pf 1 l by omega, Nat.xor_self]

theorem pf_snoc : ∀ l k b, pf k (l ++ [b]) = pf k l ^^^ (if b then k + l.length else 0)
  | [], k, b => by simp [pf]
  | a :: l, k, b => by
    show (if a then k else 0) ^^^ pf (k + 1) (l ++ [b]) = ((if a then k else 0) ^^^ pf (k + 1) l) ^^^ _
    rw [pf_snoc l (k + 1) b, Nat.xor_assoc, List.length_cons, show k + 1 + l.length = k + (l.length + 1) by omega]
theorem dt_snoc : ∀ l k b, dt k (l ++ [b]) = dt k l ++ (if isC (k + l.length) then [] else [b])
  | [], k, b => by simp [dt]
  | a :: l, k, b => by
    show (if isC k then dt (k + 1) (l ++ [b]) else a :: dt (k + 1) (l ++ [b])) = (if isC k then dt (k + 1) l else a :: dt (k + 1) l) ++ _
    rw [dt_snoc l (k + 1) b, List.length_cons, show k + 1 + l.length = k + (l.length + 1) by omega]
    by_cases hc : isC k = true
    · rw [if_pos hc, if_pos hc]
    · rw [if_neg hc, if_neg hc]; rfl
theorem take_snoc {l : List Bool} {k : Nat} (h : k < l.length) : l.take (k + 1) = l.take k ++ [l.getD k false] := by
  rw [List.take_succ_eq_append_getElem h, List.getD_eq_getElem?_getD, List.getElem?_eq_getElem h]; rfl
theorem take_len {l : List Bool} {k : Nat} (h : k ≤ l.length) : (l.take k).length = k := by rw [List.length_take]; omega

theorem pf_take {l : List Bool} {k : Nat} (h : k < l.length) : pf 1 (l.take (k + 1)) = pf 1 (l.take k) ^^^ (if l.getD k false then k + 1 else 0) := by
  rw [take_snoc h, pf_snoc, take_len (by omega), Nat.add_comm 1 k]
theorem dt_take {l : List Bool} {k : Nat} (h : k < l.length) : dt 1 (l.take (k + 1)) = dt 1 (l.take k) ++ (if isC (k + 1) then [] else [l.getD k false]) := by
  rw [take_snoc h, dt_snoc, take_len (by omega), Nat.add_comm 1 k]
theorem ob_take {l : List Bool} {k : Nat} (h : k < l.length) : ob (l.take (k + 1)) = (ob (l.take k) != l.getD k false) := by
  rw [take_snoc h, ob_append]
  show (ob (l.take k) != (l.getD k false != false)) = _
  cases l.getD k false <;> rfl
theorem pf_take_lt {l : List Bool} (k : Nat) (h : l.length ≤ 15) : pf 1 (l.take k) < 16 := pf_lt 4 _ 1 (by rw [List.length_take]; omega)

theorem mg_at : ∀ n k i c d, i < n → (mg k n c d).getD i false = if isC (k + i) then c (k + i) else d.getD (nd k i) false
  | 0, _, _, _, _, h => by omega
  | n + 1, k, 0, c, d, _ => by
    unfold mg
    have e : k + 0 = k := rfl
    rw [e]
    by_cases hc : isC k = true
    · simp [hc]
    · cases d <;> simp [hc, nd]
  | n + 1, k, i + 1, c, d, h => by
    have e : k + (i + 1) = k + 1 + i := by omega
    unfold mg
    by_cases hc : isC k = true
    · rw [if_pos hc, e]
      show (mg (k + 1) n c d).getD i false = _
      rw [mg_at n (k + 1) i c d (by omega)]
      show _ = if _ then _ else d.getD ((if isC k then 0 else 1) + nd (k + 1) i) false
      rw [if_pos hc, Nat.zero_add]
    · rw [if_neg hc, e]
      show (mg (k + 1) n c d.tail).getD i false = _
      rw [mg_at n (k + 1) i c d.tail (by omega)]
      show _ = if _ then _ else d.getD ((if isC k then 0 else 1) + nd (k + 1) i) false
      rw [if_neg hc, Nat.add_comm 1]
      cases d <;> simp
theorem nd_snoc : ∀ i k, nd k (i + 1) = nd k i + (if isC (k + i) then 0 else 1)
  | 0, k => by show (if isC k then 0 else 1) + 0 = 0 + _; rw [Nat.add_zero, Nat.zero_add, Nat.add_zero]
  | i + 1, k => by
    show (if isC k then 0 else 1) + nd (k + 1) (i + 1) = (if isC k then 0 else 1) + nd (k + 1) i + _
    rw [nd_snoc i (k + 1), show k + 1 + i = k + (i + 1) by omega, Nat.add_assoc]
theorem nd_mono (k i : Nat) : ∀ j, nd k i ≤ nd k (i + j)
  | 0 => Nat.le_refl _
  | j + 1 => by
    have := nd_mono k i j
    rw [show i + (j + 1) = i + j + 1 by omega, nd_snoc]
    omega
theorem nd_lt {r i : Nat} (h : R r) (hi : i < 2 ^ r - 1) (hc : isC (i + 1) = false) : nd 1 i < 2 ^ r - 1 - r := by
  have h1 := nd_snoc i 1
  rw [Nat.add_comm 1 i, hc, if_neg (by decide)] at h1
  have h2 := nd_mono 1 (i + 1) (2 ^ r - 1 - (i + 1))
  rw [show i + 1 + (2 ^ r - 1 - (i + 1)) = 2 ^ r - 1 by omega, nd_all h] at h2
  omega

end Go.Proofs.Ytdplmaofapnhhaa
