/-
  Sixteen numbers in plain words: products of polynomials over bits, of which x^4 + x + 1 is taken away. Nothing here speaks of the program.
-/
import Derived.WalkKit
namespace Go.Proofs.YtjdipgkdaloclaaDoor

/-- Twice a number. -/
def db (a : Nat) : Nat := if 16 ≤ 2 * a then (2 * a) ^^^ 19 else 2 * a

/-- What k bits of b, from the least on, make of a. -/
def gk : Nat → Nat → Nat → Nat
  | 0, _, _ => 0
  | k + 1, a, b => (if b % 2 = 1 then a else 0) ^^^ gk k (db a) (b / 2)

/-- The product. -/
def gm (a b : Nat) : Nat := gk 4 a b

abbrev L16 (a : Nat) : Prop := a < 16

theorem all16 {p : Nat → Prop} (h : ∀ a : Fin 16, p a) {a : Nat} (ha : a < 16) : p a := h ⟨a, ha⟩

set_option maxRecDepth 100000 in
theorem gm_lt0 : ∀ a b : Fin 16, gm a b < 16 := by decide +kernel
theorem gm_lt {a b : Nat} (ha : a < 16) (hb : b < 16) : gm a b < 16 := gm_lt0 ⟨a, ha⟩ ⟨b, hb⟩
set_option maxRecDepth 100000 in
theorem gm_comm0 : ∀ a b : Fin 16, gm a b = gm b a := by decide +kernel
theorem gm_comm {a b : Nat} (ha : a < 16) (hb : b < 16) : gm a b = gm b a := gm_comm0 ⟨a, ha⟩ ⟨b, hb⟩
set_option maxRecDepth 100000 in
theorem gm_assoc0 : ∀ a b c : Fin 16, gm (gm a b) c = gm a (gm b c) := by decide +kernel
theorem gm_assoc {a b c : Nat} (ha : a < 16) (hb : b < 16) (hc : c < 16) : gm (gm a b) c = gm a (gm b c) := gm_assoc0 ⟨a, ha⟩ ⟨b, hb⟩ ⟨c, hc⟩
set_option maxRecDepth 100000 in
theorem gm_xor0 : ∀ a b c : Fin 16, gm a (b.val ^^^ c.val) = gm a b ^^^ gm a c := by decide +kernel
theorem gm_xor {a b c : Nat} (ha : a < 16) (hb : b < 16) (hc : c < 16) : gm a (b ^^^ c) = gm a b ^^^ gm a c := gm_xor0 ⟨a, ha⟩ ⟨b, hb⟩ ⟨c, hc⟩
theorem gm_one0 : ∀ a : Fin 16, gm 1 a = a := by decide +kernel
theorem gm_one {a : Nat} (ha : a < 16) : gm 1 a = a := gm_one0 ⟨a, ha⟩
theorem gm_zero0 : ∀ a : Fin 16, gm a 0 = 0 := by decide +kernel
theorem gm_zero {a : Nat} (ha : a < 16) : gm a 0 = 0 := gm_zero0 ⟨a, ha⟩
theorem zero_gm0 : ∀ a : Fin 16, gm 0 a = 0 := by decide +kernel
theorem zero_gm {a : Nat} (ha : a < 16) : gm 0 a = 0 := zero_gm0 ⟨a, ha⟩
set_option maxRecDepth 100000 in
theorem gm_none0 : ∀ a b : Fin 16, gm a b = 0 → a.val = 0 ∨ b.val = 0 := by decide +kernel
theorem gm_none {a b : Nat} (ha : a < 16) (hb : b < 16) (h : gm a b = 0) : a = 0 ∨ b = 0 := gm_none0 ⟨a, ha⟩ ⟨b, hb⟩ h
theorem xor_lt {a b : Nat} (ha : a < 16) (hb : b < 16) : a ^^^ b < 16 := Nat.xor_lt_two_pow (n := 4) ha hb

theorem db_lt0 : ∀ a : Fin 16, db a < 16 := by decide +kernel
theorem db_lt {a : Nat} (ha : a < 16) : db a < 16 := db_lt0 ⟨a, ha⟩
set_option maxRecDepth 100000 in
/-- One step of the product: the least bit of b, and twice a. -/
theorem gm_step0 : ∀ a b : Fin 16, gm a b = (if b.val % 2 = 1 then a.val else 0) ^^^ gm (db a) (b.val / 2) := by decide +kernel
theorem gm_step {a b : Nat} (ha : a < 16) (hb : b < 16) : gm a b = (if b % 2 = 1 then a else 0) ^^^ gm (db a) (b / 2) := gm_step0 ⟨a, ha⟩ ⟨b, hb⟩

/-- What makes 1 of a. -/
def iv (a : Nat) : Nat := ((List.range 16).find? fun b => gm a b == 1).getD 0
set_option maxRecDepth 100000 in
theorem iv_lt0 : ∀ a : Fin 16, iv a < 16 := by decide +kernel
theorem iv_lt {a : Nat} (ha : a < 16) : iv a < 16 := iv_lt0 ⟨a, ha⟩
set_option maxRecDepth 100000 in
theorem iv_one0 : ∀ a : Fin 16, a.val ≠ 0 → gm a (iv a) = 1 ∧ iv (iv a) = a ∧ iv a ≠ 0 := by decide +kernel
theorem iv_one {a : Nat} (ha : a < 16) (h : a ≠ 0) : gm a (iv a) = 1 ∧ iv (iv a) = a ∧ iv a ≠ 0 := iv_one0 ⟨a, ha⟩ h
set_option maxRecDepth 100000 in
theorem iv_first0 : ∀ a b : Fin 16, b.val < iv a → gm a b ≠ 1 := by decide +kernel
theorem iv_first {a b : Nat} (ha : a < 16) (hb : b < iv a) : gm a b ≠ 1 := iv_first0 ⟨a, ha⟩ ⟨b, Nat.lt_trans hb (iv_lt ha)⟩ hb
theorem zero_iv0 : ∀ b : Fin 16, gm 0 b ≠ 1 := by decide +kernel

/-- a, k times with itself. -/
def gp (a : Nat) : Nat → Nat
  | 0 => 1
  | k + 1 => gm (gp a k) a

theorem gp_lt {a : Nat} (ha : a < 16) (k : Nat) : gp a k < 16 := by
  induction k with
  | zero => simp [gp]
  | succ k ih => exact gm_lt ih ha
theorem gp_add {a : Nat} (ha : a < 16) (j k : Nat) : gp a (j + k) = gm (gp a j) (gp a k) := by
  induction k with
  | zero => show gp a j = gm (gp a j) 1; rw [gm_comm (gp_lt ha j) (by omega), gm_one (gp_lt ha j)]
  | succ k ih =>
    show gm (gp a (j + k)) a = gm (gp a j) (gm (gp a k) a)
    rw [ih, gm_assoc (gp_lt ha j) (gp_lt ha k) ha]
theorem gp_two {a : Nat} (ha : a < 16) (k : Nat) : gp (gm a a) k = gp a (2 * k) := by
  induction k with
  | zero => rfl
  | succ k ih =>
    have e : 2 * (k + 1) = 2 * k + 1 + 1 := by omega
    rw [e]
    show gm (gp (gm a a) k) (gm a a) = gm (gm (gp a (2 * k)) a) a
    rw [ih, gm_assoc (gp_lt ha _) ha ha]
/-- One step of the power: the least bit of k, and a with itself. -/
theorem gp_step {a : Nat} (ha : a < 16) (k : Nat) : gp a k = gm (if k % 2 = 1 then a else 1) (gp (gm a a) (k / 2)) := by
  rw [gp_two ha]
  rcases Nat.mod_two_eq_zero_or_one k with h | h
  · rw [if_neg (by omega), gm_one (gp_lt ha _)]
    congr 1
    omega
  · rw [if_pos h]
    have e : k = 2 * (k / 2) + 1 := by omega
    conv => lhs; rw [e]
    show gm (gp a (2 * (k / 2))) a = _
    rw [gm_comm (gp_lt ha _) ha]
set_option maxRecDepth 100000 in
theorem gp_full0 : ∀ a : Fin 16, a.val ≠ 0 → gp a 15 = 1 := by decide +kernel
theorem gp_full {a : Nat} (ha : a < 16) (h : a ≠ 0) : gp a 15 = 1 := gp_full0 ⟨a, ha⟩ h
theorem gp_round {a : Nat} (ha : a < 16) (h : a ≠ 0) (k : Nat) : gp a k = gp a (k % 15) := by
  have all : ∀ q r, gp a (15 * q + r) = gp a r := by
    intro q
    induction q with
    | zero => intro r; rw [Nat.mul_zero, Nat.zero_add]
    | succ q ih =>
      intro r
      have e : 15 * (q + 1) + r = 15 + (15 * q + r) := by omega
      rw [e, gp_add ha, gp_full ha h, gm_one (gp_lt ha _), ih]
  have e : k = 15 * (k / 15) + k % 15 := by omega
  conv => lhs; rw [e]
  exact all _ _
theorem gp_zero (k : Nat) : gp 0 (k + 1) = 0 := by
  show gm (gp 0 k) 0 = 0
  exact gm_zero (gp_lt (by omega) k)

/-- The sum of each number of l times x as often as numbers stand ahead of it, from the end on. -/
def ev (x : Nat) : List Nat → Nat
  | [] => 0
  | c :: t => gm (ev x t) x ^^^ c

theorem ev_lt {x : Nat} (hx : x < 16) : ∀ {l : List Nat}, (∀ c ∈ l, c < 16) → ev x l < 16
  | [], _ => by simp [ev]
  | c :: t, h => xor_lt (gm_lt (ev_lt hx fun c hc => h c (List.mem_cons_of_mem _ hc)) hx) (h c (List.mem_cons_self ..))

/-- .. from the start on, one power more each time. -/
def vl (x : Nat) : Nat → List Nat → Nat
  | _, [] => 0
  | i, c :: t => gm c (gp x i) ^^^ vl x (i + 1) t

theorem vl_lt {x : Nat} (hx : x < 16) : ∀ {l : List Nat} (i : Nat), (∀ c ∈ l, c < 16) → vl x i l < 16
  | [], _, _ => by simp [vl]
  | c :: t, i, h => xor_lt (gm_lt (h c (List.mem_cons_self ..)) (gp_lt hx i)) (vl_lt hx (i + 1) fun c hc => h c (List.mem_cons_of_mem _ hc))
theorem vl_ev {x : Nat} (hx : x < 16) : ∀ {l : List Nat} (i : Nat), (∀ c ∈ l, c < 16) → vl x i l = gm (ev x l) (gp x i)
  | [], i, _ => by show 0 = gm 0 _; rw [zero_gm (gp_lt hx i)]
  | c :: t, i, h => by
    have hc := h c (List.mem_cons_self ..)
    have ht : ∀ d ∈ t, d < 16 := fun d hd => h d (List.mem_cons_of_mem _ hd)
    have he := ev_lt hx ht
    show gm c (gp x i) ^^^ vl x (i + 1) t = gm (gm (ev x t) x ^^^ c) (gp x i)
    rw [vl_ev hx (i + 1) ht, gm_comm (xor_lt (gm_lt he hx) hc) (gp_lt hx i), gm_xor (gp_lt hx i) (gm_lt he hx) hc, Nat.xor_comm]
    congr 1
    · show gm (ev x t) (gm (gp x i) x) = _
      rw [gm_comm (gp_lt hx i) (gm_lt he hx), gm_assoc he hx (gp_lt hx i), gm_comm hx (gp_lt hx i)]
    · rw [gm_comm (gp_lt hx i) hc]
theorem vl_zero {x : Nat} (hx : x < 16) {l : List Nat} (h : ∀ c ∈ l, c < 16) : vl x 0 l = ev x l := by
  rw [vl_ev hx 0 h]
  show gm (ev x l) 1 = _
  rw [gm_comm (ev_lt hx h) (by omega), gm_one (ev_lt hx h)]
theorem vl_append (x : Nat) : ∀ (l m : List Nat) (i : Nat), vl x i (l ++ m) = vl x i l ^^^ vl x (i + l.length) m
  | [], m, i => by simp [vl]
  | c :: t, m, i => by
    show gm c (gp x i) ^^^ vl x (i + 1) (t ++ m) = (gm c (gp x i) ^^^ vl x (i + 1) t) ^^^ vl x (i + (t.length + 1)) m
    rw [vl_append x t m, Nat.xor_assoc, show i + 1 + t.length = i + (t.length + 1) by omega]

end Go.Proofs.YtjdipgkdaloclaaDoor
