/-
  In plain mathematics: words of fifteen bits that 465 divides are the same at ten places at most; the bits that were turned are told by what is left.
-/
import Derived.Test.YtfngcoijbnhheaaPol
import Derived.Test.YtfngcoijbnhheaaRw
namespace Go.Proofs.Ytfngcoijbnhheaa

/-- How many of the first n are set. -/
def ct (f : Nat → Bool) : Nat → Nat
  | 0 => 0
  | n + 1 => ct f n + (if f n then 1 else 0)
theorem ct_congr {f g : Nat → Bool} : ∀ n, (∀ i, i < n → f i = g i) → ct f n = ct g n
  | 0, _ => rfl
  | n + 1, h => by
    show ct f n + _ = ct g n + _
    rw [ct_congr n (fun i hi => h i (by omega)), h n (by omega)]
theorem ct_le (f : Nat → Bool) : ∀ n, ct f n ≤ n
  | 0 => Nat.le_refl _
  | n + 1 => by
    have := ct_le f n
    show ct f n + _ ≤ _
    split <;> omega
theorem ct_tri (f g h : Nat → Bool) : ∀ n, ct (fun i => f i != h i) n ≤ ct (fun i => f i != g i) n + ct (fun i => g i != h i) n
  | 0 => Nat.le_refl _
  | n + 1 => by
    have := ct_tri f g h n
    show ct _ n + (if (f n != h n) = true then 1 else 0) ≤ (ct _ n + (if (f n != g n) = true then 1 else 0)) + (ct _ n + (if (g n != h n) = true then 1 else 0))
    cases f n <;> cases g n <;> cases h n <;> simp <;> omega
theorem ct_zero {f : Nat → Bool} : ∀ n, ct f n = 0 → ∀ i, i < n → f i = false
  | 0, _, _, h => by omega
  | n + 1, h, i, hi => by
    have e : ct f n + (if f n then 1 else 0) = 0 := h
    by_cases hn : i = n
    · subst hn
      cases hf : f i
      · rfl
      · rw [hf] at e; simp at e
    · exact ct_zero n (by omega) i (by omega)
/-- One that is set, and the others. -/
theorem ct_pick {f : Nat → Bool} : ∀ n m, ct f n = m + 1 → ∃ p, p < n ∧ f p = true ∧ ct (fun i => f i != decide (i = p)) n = m ∧ ∀ i, p < i → i < n → f i = false
  | 0, m, h => by cases h
  | n + 1, m, h => by
    have e : ct f n + (if f n then 1 else 0) = m + 1 := h
    cases hf : f n
    · rw [hf] at e
      simp at e
      obtain ⟨p, hp, h1, h2, h3⟩ := ct_pick n m e
      refine ⟨p, by omega, h1, ?_, fun i hi hi' => ?_⟩
      · show ct _ n + (if (f n != decide (n = p)) = true then 1 else 0) = m
        rw [h2, hf, decide_eq_false (by omega)]; rfl
      · by_cases hn : i = n
        · rw [hn]; exact hf
        · exact h3 i hi (by omega)
    · rw [hf] at e
      simp at e
      refine ⟨n, by omega, hf, ?_, fun i hi hi' => by omega⟩
      show ct _ n + (if (f n != decide (n = n)) = true then 1 else 0) = m
      rw [hf, decide_eq_true rfl]
      show ct _ n + 0 = m
      rw [← e]
      exact ct_congr n (fun i hi => by rw [decide_eq_false (by omega), Bool.bne_false])

/-- At how many places two lists of bits are not the same. -/
def df (x y : List Bool) : Nat := ct (fun i => x.getD i false != y.getD i false) x.length

theorem G465 : G 465 := ⟨by decide, by decide, by decide⟩
theorem log465 : (465 : Nat).log2 = 8 := by decide +kernel

theorem df_self (x : List Bool) : df x x = 0 := by
  unfold df
  have : ∀ n, ct (fun i => x.getD i false != x.getD i false) n = 0 := fun n => by
    induction n with
    | zero => rfl
    | succ n ih =>
      show ct _ n + (if (x.getD n false != x.getD n false) = true then 1 else 0) = 0
      rw [ih]
      cases x.getD n false <;> rfl
  exact this _
theorem df_comm {x y : List Bool} (h : x.length = y.length) : df x y = df y x := by
  unfold df
  rw [h]
  exact ct_congr _ (fun i _ => by cases x.getD i false <;> cases y.getD i false <;> rfl)
theorem df_tri {x y z : List Bool} (h : x.length = y.length) : df x z ≤ df x y + df y z := by
  unfold df
  rw [← h]
  exact ct_tri _ _ _ _

/-- What is put for seven bits. -/
abbrev bo (d : List Bool) : List Bool := pt 465 d
theorem bo_len {d : List Bool} (h : d.length = 7) : (bo d).length = 15 := by rw [pt_len, log465, h]
theorem bo_rs (d : List Bool) : rs 465 (bo d) = 0 := rs_pt G465 d
theorem bo_at (d : List Bool) (i : Nat) (h : i < d.length) : (bo d).getD i false = d.getD i false := by
  show (d ++ _).getD i false = _
  rw [app_at, if_pos h]

/-- Of two words the bits at which they are not the same. -/
def xr (x y : List Bool) : List Bool := bl (fun i => x.getD i false != y.getD i false) 15
theorem xr_len (x y : List Bool) : (xr x y).length = 15 := bl_len _ _
theorem xr_at (x y : List Bool) {i : Nat} (h : i < 15) : (xr x y).getD i false = (x.getD i false != y.getD i false) := bl_at _ h
theorem xr_rs {x y : List Bool} (hx : x.length = 15) (hy : y.length = 15) : rs 465 (xr x y) = rs 465 x ^^^ rs 465 y := by
  unfold rs
  rw [xr_len, hx, hy, ← rn_xor]
  exact rn_congr _ (fun i hi => xr_at x y hi)
theorem df_xr {x y : List Bool} (hx : x.length = 15) : df x y = ct (fun i => (xr x y).getD i false) 15 := by
  unfold df
  rw [hx]
  exact ct_congr _ (fun i hi => (xr_at x y hi).symm)
theorem df_turn {x t : List Bool} : df (xr x t) x = ct (fun i => t.getD i false) 15 := by
  unfold df
  rw [xr_len]
  refine ct_congr _ (fun i hi => ?_)
  rw [xr_at x t hi]
  cases x.getD i false <;> cases t.getD i false <;> rfl
theorem same_of {x y : List Bool} (hl : x.length = y.length) (h : ∀ i, i < x.length → x.getD i false = y.getD i false) : x = y := by
  apply List.ext_getElem hl
  intro i h1 h2
  have := h i h1
  simpa [List.getD_eq_getElem?_getD, h1, h2] using this

/-- Of the words that are put none but the first has fewer than five bits that are set. -/
theorem few7 : ∀ a b c d e f g : Bool, ct (fun i => (bo [a, b, c, d, e, f, g]).getD i false) 15 ≤ 4 → [a, b, c, d, e, f, g] = List.replicate 7 false := by decide +kernel
theorem few_any {d : List Bool} (h : d.length = 7) (hc : ct (fun i => (bo d).getD i false) 15 ≤ 4) : d = List.replicate 7 false := by
  match d, h with
  | [a, b, c, d, e, f, g], _ => exact few7 a b c d e f g hc

/-- Bose, Ray-Chaudhuri; Hocquenghem: what is put for two data that are not the same is not the same at five places at least. -/
theorem bo_far {a b : List Bool} (ha : a.length = 7) (hb : b.length = 7) (h : df (bo a) (bo b) ≤ 4) : a = b := by
  have hr : rs 465 (xr (bo a) (bo b)) = 0 := by rw [xr_rs (bo_len ha) (bo_len hb), bo_rs, bo_rs]; rfl
  have e := pt_back G465 (xr (bo a) (bo b)) 7 (by rw [xr_len, log465]) hr
  rw [df_xr (bo_len ha)] at h
  have hz := few_any (d := (xr (bo a) (bo b)).take 7) (by rw [List.length_take, xr_len]; rfl) (by show ct (fun i => (pt 465 _).getD i false) 15 ≤ 4; rw [e]; exact h)
  refine same_of (by rw [ha, hb]) (fun i hi => ?_)
  rw [ha] at hi
  have h1 : ((xr (bo a) (bo b)).take 7).getD i false = false := by rw [hz]; exact zeros_at 7 i
  rw [List.getD_eq_getElem?_getD, List.getElem?_take_of_lt hi, ← List.getD_eq_getElem?_getD, xr_at _ _ (by omega), bo_at a i (by omega), bo_at b i (by omega)] at h1
  revert h1
  cases a.getD i false <;> cases b.getD i false <;> simp

/-- What is left of the bit at a place alone. -/
def lo (p : Nat) : Nat := [232, 116, 58, 29, 230, 115, 209, 128, 64, 32, 16, 8, 4, 2, 1].getD p 0
/-- The bit at a place alone. -/
def un (p : Nat) : List Bool := bl (fun i => decide (i = p)) 15
theorem lo_is : ∀ p, p < 15 → rs 465 (un p) = lo p := by decide +kernel
theorem lo_lt : ∀ p, p < 15 → lo p < 256 := by decide +kernel

/-- No bits. -/
def zs : List Bool := List.replicate 15 false
/-- The first place, of n from p on, of which something is told; the bit there is set besides. -/
def tr (f : Nat → Option (List Bool)) : Nat → Nat → Option (List Bool)
  | 0, _ => none
  | n + 1, p => match f p with
    | some b => some (b.set p true)
    | none => tr f n (p + 1)
/-- Bits from a place on, no more than m, of which the same is left. -/
def sr : Nat → Nat → Nat → Option (List Bool)
  | 0, x, _ => if x = 0 then some zs else none
  | m + 1, x, p => if x = 0 then some zs else tr (fun q => sr m (x ^^^ lo q) (q + 1)) (15 - p) p
theorem sr_len : ∀ m x p b, sr m x p = some b → b.length = 15
  | 0, x, p, b, h => by
    unfold sr at h
    split at h
    · cases h; exact List.length_replicate
    · cases h
  | m + 1, x, p, b, h => by
    unfold sr at h
    split at h
    · cases h; exact List.length_replicate
    · revert h
      generalize 15 - p = n
      induction n generalizing p with
      | zero => intro h; cases h
      | succ n ih =>
        intro h
        unfold tr at h
        split at h
        · rename_i b' hb
          cases h
          rw [List.length_set]
          exact sr_len m _ _ _ hb
        · exact ih (p + 1) h

/-- Is what is found as told? -/
def okB (x : Nat) : Bool := match sr 2 x 0 with
  | some t => t.length == 15 && rs 465 t == x && decide (ct (fun i => t.getD i false) 15 ≤ 2)
  | none => true
theorem ok_all : ∀ x, x < 256 → okB x = true := by decide +kernel
theorem sr_ok {x : Nat} {t : List Bool} (hx : x < 256) (h : sr 2 x 0 = some t) : t.length = 15 ∧ rs 465 t = x ∧ ct (fun i => t.getD i false) 15 ≤ 2 := by
  have := ok_all x hx
  unfold okB at this
  rw [h] at this
  simp only [Bool.and_eq_true, beq_iff_eq, decide_eq_true_eq] at this
  exact ⟨this.1.1, this.1.2, this.2⟩
theorem some0 : (sr 2 0 0).isSome = true := by decide +kernel
theorem some1 : ∀ i, i < 15 → (sr 2 (lo i) 0).isSome = true := by decide +kernel
theorem some2 : ∀ i, i < 15 → ∀ j, j < 15 → (sr 2 (lo i ^^^ lo j) 0).isSome = true := by decide +kernel

theorem rn_none {f : Nat → Bool} (h : ct f 15 = 0) : rn 465 f 15 = 0 := rn_zero _ _ _ (ct_zero 15 h)
theorem rn_un {p : Nat} (hp : p < 15) : rn 465 (fun i => decide (i = p)) 15 = lo p := by
  rw [← lo_is p hp]
  unfold rs un
  rw [bl_len]
  exact rn_congr _ (fun i hi => (bl_at (fun i => decide (i = p)) hi).symm)
theorem rn_pick {f : Nat → Bool} {m : Nat} (h : ct f 15 = m + 1) : ∃ p g, p < 15 ∧ ct g 15 = m ∧ rn 465 f 15 = rn 465 g 15 ^^^ lo p := by
  obtain ⟨p, hp, h1, h2, _⟩ := ct_pick 15 m h
  refine ⟨p, _, hp, h2, ?_⟩
  rw [← rn_un hp, ← rn_xor]
  exact rn_congr _ (fun i _ => by cases f i <;> cases decide (i = p) <;> rfl)
theorem sr_some {f : Nat → Bool} (h : ct f 15 ≤ 2) : (sr 2 (rn 465 f 15) 0).isSome = true := by
  rcases (by omega : ct f 15 = 0 ∨ ct f 15 = 0 + 1 ∨ ct f 15 = 1 + 1) with h0 | h0 | h0
  · rw [rn_none h0]; exact some0
  · obtain ⟨p, g, hp, hg, e⟩ := rn_pick h0
    rw [e, rn_none hg, Nat.zero_xor]
    exact some1 p hp
  · obtain ⟨p, g, hp, hg, e⟩ := rn_pick h0
    obtain ⟨q, g2, hq, hg2, e2⟩ := rn_pick hg
    rw [e, e2, rn_none hg2, Nat.zero_xor]
    exact some2 q hq p hp

/-- The data, and how many bits were turned. -/
def fx (l : List Bool) : Option (List Bool × Nat) := (sr 2 (rs 465 l) 0).map fun t => (bl (fun i => l.getD i false != t.getD i false) 7, ct (fun i => t.getD i false) 15)
theorem fx_ok {l d : List Bool} {n : Nat} (hl : l.length = 15) (h : fx l = some (d, n)) : d.length = 7 ∧ df (bo d) l = n ∧ n ≤ 2 := by
  unfold fx at h
  cases ht : sr 2 (rs 465 l) 0 with
  | none => rw [ht] at h; cases h
  | some t =>
    rw [ht] at h
    simp only [Option.map_some, Option.some.injEq, Prod.mk.injEq] at h
    have hlt : rs 465 l < 256 := by have := rs_lt G465 l; rw [log465] at this; exact this
    obtain ⟨t1, t2, t3⟩ := sr_ok hlt ht
    obtain ⟨rfl, rfl⟩ := h
    have hr : rs 465 (xr l t) = 0 := by rw [xr_rs hl t1, t2, Nat.xor_self]
    have e := pt_back G465 (xr l t) 7 (by rw [xr_len, log465]) hr
    have e7 : bl (fun i => l.getD i false != t.getD i false) 7 = (xr l t).take 7 := by
      unfold xr bl
      rw [← List.map_take, List.take_range]; rfl
    refine ⟨bl_len _ _, ?_, t3⟩
    rw [e7]
    show df (pt 465 _) l = _
    rw [e]
    exact df_turn
theorem fx_near {l a : List Bool} (hl : l.length = 15) (ha : a.length = 7) (h : df (bo a) l ≤ 2) : fx l = some (a, df (bo a) l) := by
  have hs : (sr 2 (rs 465 l) 0).isSome = true := by
    have e : rs 465 l = rs 465 (xr (bo a) l) := by rw [xr_rs (bo_len ha) hl, bo_rs, Nat.zero_xor]
    rw [e]
    unfold rs
    rw [xr_len]
    rw [df_xr (bo_len ha)] at h
    exact sr_some h
  cases hf : fx l with
  | none =>
    unfold fx at hf
    cases ht : sr 2 (rs 465 l) 0 with
    | none => rw [ht] at hs; cases hs
    | some t => rw [ht] at hf; cases hf
  | some dn =>
    obtain ⟨d, n⟩ := dn
    obtain ⟨h1, h2, h3⟩ := fx_ok hl hf
    have hd : d = a := bo_far h1 ha (by
      have := df_tri (x := bo d) (y := l) (z := bo a) (by rw [bo_len h1, hl])
      rw [df_comm (x := l) (y := bo a) (by rw [bo_len ha, hl])] at this
      omega)
    subst hd
    rw [h2]
theorem fx_far {l a : List Bool} (hl : l.length = 15) (ha : a.length = 7) (h : fx l = none) : 2 < df (bo a) l := by
  rcases Nat.lt_or_ge 2 (df (bo a) l) with h2 | h2
  · exact h2
  · rw [fx_near hl ha h2] at h; cases h

end Go.Proofs.Ytfngcoijbnhheaa
