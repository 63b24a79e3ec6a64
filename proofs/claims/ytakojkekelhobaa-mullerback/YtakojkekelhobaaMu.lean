/-
  In plain mathematics: products of variables in the order of their degrees, the sum of chosen ones, the parts' votes, and Reed's way back.
-/
import Derived.Test.YtakojkekelhobaaCho
namespace Go.Proofs.Ytakojkekelhobaa

/-- Is an odd number of the first n set? -/
def xs (f : Nat → Bool) : Nat → Bool
  | 0 => false
  | n + 1 => xs f n != f n
/-- How many of the first n are set. -/
def ct (f : Nat → Bool) : Nat → Nat
  | 0 => 0
  | n + 1 => ct f n + (if f n then 1 else 0)

theorem xs_congr {f g : Nat → Bool} : ∀ n, (∀ i, i < n → f i = g i) → xs f n = xs g n
  | 0, _ => rfl
  | n + 1, h => by
    show (xs f n != f n) = (xs g n != g n)
    rw [xs_congr n (fun i hi => h i (by omega)), h n (by omega)]
theorem ct_congr {f g : Nat → Bool} : ∀ n, (∀ i, i < n → f i = g i) → ct f n = ct g n
  | 0, _ => rfl
  | n + 1, h => by
    show ct f n + _ = ct g n + _
    rw [ct_congr n (fun i hi => h i (by omega)), h n (by omega)]
theorem xs_false {f : Nat → Bool} : ∀ n, (∀ i, i < n → f i = false) → xs f n = false
  | 0, _ => rfl
  | n + 1, h => by
    show (xs f n != f n) = false
    rw [xs_false n (fun i hi => h i (by omega)), h n (by omega)]; rfl
theorem xs_xor (f g : Nat → Bool) : ∀ n, xs (fun i => f i != g i) n = (xs f n != xs g n)
  | 0 => rfl
  | n + 1 => by
    show (xs (fun i => f i != g i) n != (f n != g n)) = ((xs f n != f n) != (xs g n != g n))
    rw [xs_xor f g n]
    cases xs f n <;> cases xs g n <;> cases f n <;> cases g n <;> rfl
theorem xs_and (b : Bool) (f : Nat → Bool) : ∀ n, xs (fun i => b && f i) n = (b && xs f n)
  | 0 => by cases b <;> rfl
  | n + 1 => by
    show (xs (fun i => b && f i) n != (b && f n)) = (b && (xs f n != f n))
    rw [xs_and b f n]
    cases b <;> cases xs f n <;> cases f n <;> rfl
theorem xs_swap (F : Nat → Nat → Bool) (n : Nat) : ∀ k, xs (fun x => xs (fun i => F x i) n) k = xs (fun i => xs (fun x => F x i) k) n
  | 0 => (xs_false n (fun _ _ => rfl)).symm
  | k + 1 => by
    show (xs (fun x => xs (fun i => F x i) n) k != xs (fun i => F k i) n) = _
    rw [xs_swap F n k, ← xs_xor]
    rfl
theorem xs_one {f : Nat → Bool} {j : Nat} : ∀ n, j < n → (∀ i, i < n → i ≠ j → f i = false) → xs f n = f j
  | 0, h, _ => by omega
  | n + 1, h, h2 => by
    show (xs f n != f n) = f j
    by_cases e : j = n
    · subst e
      rw [xs_false j (fun i hi => h2 i (by omega) (by omega))]
      cases f j <;> rfl
    · rw [xs_one n (by omega) (fun i hi => h2 i (by omega)), h2 n (by omega) (fun h => e h.symm)]
      cases f j <;> rfl
theorem xs_some {f : Nat → Bool} : ∀ n, xs f n = true → ∃ i, i < n ∧ f i = true
  | 0, h => by cases h
  | n + 1, h => by
    cases hf : f n
    · have h' : (xs f n != f n) = true := h
      rw [hf] at h'
      have : xs f n = true := by cases hx : xs f n <;> rw [hx] at h' <;> first | rfl | cases h'
      obtain ⟨i, hi, h2⟩ := xs_some n this
      exact ⟨i, by omega, h2⟩
    · exact ⟨n, by omega, hf⟩

theorem ct_le (f : Nat → Bool) : ∀ n, ct f n ≤ n
  | 0 => Nat.le_refl 0
  | n + 1 => by
    have := ct_le f n
    show ct f n + _ ≤ n + 1
    split <;> omega
theorem ct_mono {f g : Nat → Bool} : ∀ n, (∀ i, i < n → f i = true → g i = true) → ct f n ≤ ct g n
  | 0, _ => Nat.le_refl 0
  | n + 1, h => by
    have h1 := ct_mono n (fun i hi => h i (by omega))
    have h2 := h n (by omega)
    show ct f n + _ ≤ ct g n + _
    cases hf : f n
    · simp; omega
    · rw [h2 hf]; omega
theorem ct_zero {f : Nat → Bool} : ∀ n, (∀ i, i < n → f i = false) → ct f n = 0
  | 0, _ => rfl
  | n + 1, h => by
    show ct f n + _ = 0
    rw [ct_zero n (fun i hi => h i (by omega)), h n (by omega)]; rfl
theorem ct_and_not (g f : Nat → Bool) : ∀ n, ct (fun o => g o && !f o) n + ct (fun o => g o && f o) n = ct g n
  | 0 => rfl
  | n + 1 => by
    have := ct_and_not g f n
    show (ct (fun o => g o && !f o) n + (if (g n && !f n) = true then 1 else 0)) + (ct (fun o => g o && f o) n + (if (g n && f n) = true then 1 else 0)) = ct g n + (if g n = true then 1 else 0)
    cases g n <;> cases f n
    · show (_ + 0) + (_ + 0) = _ + 0; omega
    · show (_ + 0) + (_ + 0) = _ + 0; omega
    · show (_ + 1) + (_ + 0) = _ + 1; omega
    · show (_ + 0) + (_ + 1) = _ + 1; omega

/-- One place more or less. -/
theorem ct_step {f g : Nat → Bool} {j : Nat} : ∀ n, (∀ i, i < n → i ≠ j → f i = g i) → ct f n ≤ ct g n + 1
  | 0, _ => by show 0 ≤ 0 + 1; omega
  | n + 1, h => by
    show ct f n + _ ≤ ct g n + _ + 1
    by_cases e : n = j
    · rw [ct_congr n (fun i hi => h i (by omega) (by omega))]
      split <;> split <;> omega
    · have := ct_step (f := f) (g := g) (j := j) n (fun i hi => h i (by omega))
      rw [h n (by omega) e]
      omega

/-- As many parts as bits at most have an odd number of them. -/
theorem parts_le (g : Nat → Bool) (key : Nat → Nat) (e : Nat → Bool) (M : Nat) : ∀ n, ct (fun o => g o && xs (fun x => key x == o && e x) n) M ≤ ct e n
  | 0 => by
    rw [ct_zero M (fun o _ => by show (g o && false) = false; cases g o <;> rfl)]
    exact Nat.zero_le _
  | n + 1 => by
    have ih := parts_le g key e M n
    show _ ≤ ct e n + _
    cases he : e n
    · rw [ct_congr (g := fun o => g o && xs (fun x => key x == o && e x) n) M (fun o _ => by
        show (g o && (xs _ n != (key n == o && e n))) = _
        rw [he]; cases key n == o <;> cases xs (fun x => key x == o && e x) n <;> cases g o <;> rfl)]
      simpa using ih
    · have h := ct_step (f := fun o => g o && xs (fun x => key x == o && e x) (n + 1)) (g := fun o => g o && xs (fun x => key x == o && e x) n) (j := key n) M (fun o _ ho => by
        show (g o && (xs _ n != (key n == o && e n))) = _
        rw [show (key n == o) = false from beq_eq_false_iff_ne.2 (fun h => ho h.symm)]
        cases xs (fun x => key x == o && e x) n <;> cases g o <;> rfl)
      rw [if_pos rfl]
      omega

/-- The products of a degree below d, in their order. -/
def pl (m : Nat) : Nat → List Nat
  | 0 => []
  | d + 1 => pl m d ++ (List.range (2 ^ m)).filter (fun p => pop p == d)

/-- Is a product within x? -/
def wi (p x : Nat) : Bool := p &&& x == p
/-- Whether an odd number of the chosen products are within x. -/
def cw (L : List Nat) (D : Nat → Bool) (x : Nat) : Bool := xs (fun i => D i && wi (L.getD i 0) x) L.length
/-- Has the part an odd number of set bits? -/
def pt (N p : Nat) (l : Nat → Bool) (o : Nat) : Bool := xs (fun x => x - (x &&& p) == o && l x) N
def yes (N p : Nat) (l : Nat → Bool) (M : Nat) : Nat := ct (fun o => o &&& p == 0 && pt N p l o) M
def all (p M : Nat) : Nat := ct (fun o => o &&& p == 0) M
/-- What more than half of the parts say. -/
def vt (N p : Nat) (l : Nat → Bool) : Bool := decide (all p N < yes N p l N + yes N p l N)

/-- What is left of the bits when the k greatest degrees are taken away. -/
def lf (N : Nat) (L : List Nat) (r : Nat) (l : Nat → Bool) : Nat → Nat → Bool
  | 0 => l
  | k + 1 => fun x => lf N L r l k x != cw L (fun i => pop (L.getD i 0) == r - k && vt N (L.getD i 0) (lf N L r l k)) x
/-- The data that the k greatest degrees have told. -/
def gd (N : Nat) (L : List Nat) (r : Nat) (l : Nat → Bool) : Nat → Nat → Bool
  | 0, _ => false
  | k + 1, i => gd N L r l k i || (pop (L.getD i 0) == r - k && vt N (L.getD i 0) (lf N L r l k))

theorem pl_few : ∀ m : Fin 5, ∀ d : Fin 6, (pl m.val d.val).length ≤ 16 := by decide +kernel
theorem pl_deg : ∀ m : Fin 5, ∀ d : Fin 6, ∀ i : Fin 16, i.val < (pl m.val d.val).length → pop ((pl m.val d.val).getD i.val 0) < d.val ∧ (pl m.val d.val).getD i.val 0 < 2 ^ m.val := by decide +kernel
theorem pl_at : ∀ m : Fin 5, ∀ r : Fin 5, ∀ d : Fin 5, ∀ i : Fin 16, d.val ≤ r.val → i.val < (pl m.val (r.val + 1)).length → (((pl m.val d.val).length ≤ i.val ∧ i.val < (pl m.val (d.val + 1)).length) ↔ pop ((pl m.val (r.val + 1)).getD i.val 0) = d.val) := by decide +kernel
theorem pl_grow : ∀ m : Fin 5, ∀ d : Fin 5, d.val ≤ m.val → (pl m.val d.val).length < (pl m.val (d.val + 1)).length := by decide +kernel
theorem pl_inj : ∀ m : Fin 5, ∀ r : Fin 5, ∀ i : Fin 16, ∀ j : Fin 16, i.val < (pl m.val (r.val + 1)).length → j.val < (pl m.val (r.val + 1)).length → (pl m.val (r.val + 1)).getD i.val 0 = (pl m.val (r.val + 1)).getD j.val 0 → i.val = j.val := by decide +kernel
theorem all_at : ∀ m : Fin 5, ∀ p : Fin 16, p.val < 2 ^ m.val → all p.val (2 ^ m.val) = 2 ^ (m.val - pop p.val) ∧ pop p.val ≤ m.val := by decide +kernel

end Go.Proofs.Ytakojkekelhobaa
