/-
  What the places of set bits sum up to; one bit more or less; how many words have which sum. Nothing here speaks of the program.
-/
import Derived.Test.YtofdinddloejbaaRw
namespace Go.Proofs.Ytofdinddloejbaa
open Go.RowKit

/-- The places of the set bits, from k + 1 on, together. -/
def ps : Nat → List Bool → Nat
  | _, [] => 0
  | k, b :: l => (if b then k + 1 else 0) + ps (k + 1) l
/-- How many are set. -/
def ct : List Bool → Nat
  | [] => 0
  | b :: l => (if b then 1 else 0) + ct l
/-- What the sum leaves. -/
def sm (l : List Bool) : Nat := ps 0 l % (l.length + 1)

theorem ps_append (a b : List Bool) : ∀ k, ps k (a ++ b) = ps k a + ps (k + a.length) b := by
  induction a with
  | nil => intro k; simp [ps]
  | cons c a ih =>
    intro k
    show (if c then k + 1 else 0) + ps (k + 1) (a ++ b) = ((if c then k + 1 else 0) + ps (k + 1) a) + ps (k + (a.length + 1)) b
    rw [ih (k + 1), show k + (a.length + 1) = k + 1 + a.length by omega]
    omega
theorem ct_append (a b : List Bool) : ct (a ++ b) = ct a + ct b := by
  induction a with
  | nil => simp [ct]
  | cons c a ih =>
    show (if c then 1 else 0) + ct (a ++ b) = ((if c then 1 else 0) + ct a) + ct b
    rw [ih]; omega
theorem ps_shift (l : List Bool) : ∀ k, ps (k + 1) l = ps k l + ct l := by
  induction l with
  | nil => intro k; rfl
  | cons c l ih =>
    intro k
    show (if c then k + 1 + 1 else 0) + ps (k + 1 + 1) l = ((if c then k + 1 else 0) + ps (k + 1) l) + ((if c then 1 else 0) + ct l)
    rw [ih (k + 1)]
    cases c <;> simp <;> omega
theorem ct_le (l : List Bool) : ct l ≤ l.length := by
  induction l with
  | nil => exact Nat.le_refl 0
  | cons c l ih =>
    show (if c then 1 else 0) + ct l ≤ l.length + 1
    cases c <;> simp <;> omega
theorem ps_le (l : List Bool) : ∀ k, ps k l ≤ (k + l.length) * l.length := by
  induction l with
  | nil => intro k; exact Nat.zero_le _
  | cons c l ih =>
    intro k
    have h := ih (k + 1)
    have e : (k + (l.length + 1)) * (l.length + 1) = (k + 1 + l.length) * l.length + (k + 1 + l.length) := by
      rw [show k + (l.length + 1) = k + 1 + l.length by omega, Nat.mul_succ]
    show (if c then k + 1 else 0) + ps (k + 1) l ≤ (k + (l.length + 1)) * (l.length + 1)
    rw [e]
    cases c <;> simp <;> omega
theorem take_snoc {l : List Bool} {k : Nat} (h : k < l.length) : l.take (k + 1) = l.take k ++ [l.getD k false] := by
  rw [List.take_succ_eq_append_getElem h]
  simp [List.getD_eq_getElem?_getD, h]
theorem ps_take {l : List Bool} {k : Nat} (h : k < l.length) : ps 0 (l.take (k + 1)) = ps 0 (l.take k) + (if l.getD k false then k + 1 else 0) := by
  rw [take_snoc h, ps_append, List.length_take, Nat.zero_add, Nat.min_eq_left (by omega)]
  rfl
theorem ct_take {l : List Bool} {k : Nat} (h : k < l.length) : ct (l.take (k + 1)) = ct (l.take k) + (if l.getD k false then 1 else 0) := by
  rw [take_snoc h, ct_append]
  rfl
theorem ps_take_le (l : List Bool) (k : Nat) : ps 0 (l.take k) ≤ ps 0 l := by
  have h := ps_append (l.take k) (l.drop k) 0
  rw [List.take_append_drop] at h
  omega
theorem sm_le (l : List Bool) : sm l ≤ l.length := by
  have : sm l < l.length + 1 := Nat.mod_lt _ (by omega)
  omega

/-- One bit more, behind the first k. -/
def ins (k : Nat) (b : Bool) (l : List Bool) : List Bool := l.take k ++ b :: l.drop k
/-- One bit less. -/
def wo (k : Nat) (l : List Bool) : List Bool := l.take k ++ l.drop (k + 1)
/-- How much one bit more adds. -/
def dl (k : Nat) (b : Bool) (l : List Bool) : Nat := ct (l.drop k) + if b then k + 1 else 0

theorem ins_len {k : Nat} {l : List Bool} (b : Bool) : (ins k b l).length = l.length + 1 := by
  unfold ins
  rw [List.length_append, List.length_cons, List.length_take, List.length_drop]
  omega
theorem wo_len {k : Nat} {l : List Bool} (h : k < l.length) : (wo k l).length + 1 = l.length := by
  unfold wo
  rw [List.length_append, List.length_take, List.length_drop]
  omega
theorem ins_wo {k : Nat} {l : List Bool} (h : k < l.length) : ins k (l.getD k false) (wo k l) = l := by
  have h1 : (l.take k).length = k := by rw [List.length_take]; omega
  unfold ins wo
  rw [List.take_append_of_le_length (by omega), List.take_of_length_le (by omega), List.drop_append_of_le_length (by omega), List.drop_of_length_le (by omega), List.nil_append]
  have e : l.getD k false = l[k] := by simp [List.getD_eq_getElem?_getD, h]
  rw [e, ← List.drop_eq_getElem_cons h, List.take_append_drop]
theorem ps_ins {k : Nat} {l : List Bool} (b : Bool) (h : k ≤ l.length) : ps 0 (ins k b l) = ps 0 l + dl k b l := by
  have h1 : (l.take k).length = k := by rw [List.length_take]; omega
  have h2 := ps_append (l.take k) (l.drop k) 0
  rw [List.take_append_drop, h1, Nat.zero_add] at h2
  unfold ins dl
  rw [ps_append, h1, Nat.zero_add]
  show ps 0 (l.take k) + ((if b then k + 1 else 0) + ps (k + 1) (l.drop k)) = _
  rw [ps_shift, h2]
  omega
theorem ct_drop_le (k : Nat) (l : List Bool) : ct (l.drop k) ≤ ct l := by
  have h := ct_append (l.take k) (l.drop k)
  rw [List.take_append_drop] at h
  omega
theorem ct_drop_ge {k : Nat} {l : List Bool} (h : k ≤ l.length) : ct l ≤ k + ct (l.drop k) := by
  have h1 := ct_append (l.take k) (l.drop k)
  rw [List.take_append_drop] at h1
  have h2 := ct_le (l.take k)
  rw [List.length_take] at h2
  omega
theorem dl_le {k : Nat} {l : List Bool} (b : Bool) (h : k ≤ l.length) : dl k b l ≤ l.length + 1 := by
  have h1 := ct_le (l.drop k)
  rw [List.length_drop] at h1
  unfold dl
  cases b <;> simp <;> omega

theorem insF : ∀ (l : List Bool) (k j : Nat), ct (l.drop k) = ct (l.drop j) → ins k false l = ins j false l
  | [], k, j, _ => by simp [ins]
  | c :: l, 0, 0, _ => rfl
  | c :: l, k + 1, j + 1, h => by
    have := insF l k j h
    show c :: ins k false l = c :: ins j false l
    rw [this]
  | c :: l, 0, j + 1, h => by
    have h1 : (if c then 1 else 0) + ct l = ct (l.drop j) := h
    have h2 := ct_drop_le j l
    cases c with
    | true => simp at h1; omega
    | false =>
      have := insF l 0 j (by simp at h1; simpa using h1)
      show false :: ins 0 false l = false :: ins j false l
      rw [this]
  | c :: l, k + 1, 0, h => by
    have h1 : ct (l.drop k) = (if c then 1 else 0) + ct l := h
    have h2 := ct_drop_le k l
    cases c with
    | true => simp at h1; omega
    | false =>
      have := insF l k 0 (by simp at h1; simpa using h1)
      show false :: ins k false l = false :: ins 0 false l
      rw [this]
theorem insT : ∀ (l : List Bool) (k j : Nat), k ≤ l.length → j ≤ l.length → k + ct (l.drop k) = j + ct (l.drop j) → ins k true l = ins j true l
  | [], k, j, _, _, _ => by simp [ins]
  | c :: l, 0, 0, _, _, _ => rfl
  | c :: l, k + 1, j + 1, hk, hj, h => by
    simp only [List.length_cons] at hk hj
    have := insT l k j (by omega) (by omega) (by simp only [List.drop_succ_cons] at h; omega)
    show c :: ins k true l = c :: ins j true l
    rw [this]
  | c :: l, 0, j + 1, hk, hj, h => by
    simp only [List.length_cons] at hj
    have h1 : 0 + ((if c then 1 else 0) + ct l) = j + 1 + ct (l.drop j) := h
    have h2 := ct_drop_ge (k := j) (l := l) (by omega)
    cases c with
    | false => simp at h1; omega
    | true =>
      have := insT l 0 j (by omega) (by omega) (by simp at h1; simp; omega)
      show true :: ins 0 true l = true :: ins j true l
      rw [this]
  | c :: l, k + 1, 0, hk, hj, h => by
    simp only [List.length_cons] at hk
    have h1 : k + 1 + ct (l.drop k) = 0 + ((if c then 1 else 0) + ct l) := h
    have h2 := ct_drop_ge (k := k) (l := l) (by omega)
    cases c with
    | false => simp at h1; omega
    | true =>
      have := insT l k 0 (by omega) (by omega) (by simp at h1; simp; omega)
      show true :: ins k true l = true :: ins 0 true l
      rw [this]

/-- What adds as much is the same list. -/
theorem ins_same {l : List Bool} {k j : Nat} {b c : Bool} (hk : k ≤ l.length) (hj : j ≤ l.length) (h : dl k b l = dl j c l) : ins k b l = ins j c l := by
  have h1 := ct_drop_le k l
  have h2 := ct_drop_le j l
  have h3 := ct_drop_ge hk
  have h4 := ct_drop_ge hj
  unfold dl at h
  cases b <;> cases c <;> simp at h
  · exact insF l k j h
  · omega
  · omega
  · exact insT l k j hk hj (by omega)
/-- LEVENSHTEIN: one bit more, with one sum, is one list. -/
theorem ins_uniq {l : List Bool} {k j : Nat} {b c : Bool} (hk : k ≤ l.length) (hj : j ≤ l.length) (h : sm (ins k b l) = sm (ins j c l)) : ins k b l = ins j c l := by
  refine ins_same hk hj ?_
  unfold sm at h
  rw [ins_len, ins_len, ps_ins b hk, ps_ins c hj] at h
  have h1 := dl_le b hk
  have h2 := dl_le c hj
  generalize dl k b l = d at *
  generalize dl j c l = e at *
  generalize ps 0 l = p at *
  generalize l.length = n at *
  have h3 := Nat.mod_add_div (p + d) (n + 1 + 1)
  have h4 := Nat.mod_add_div (p + e) (n + 1 + 1)
  rw [h] at h3
  generalize (p + d) / (n + 1 + 1) = q at *
  generalize (p + e) / (n + 1 + 1) = r at *
  generalize (p + e) % (n + 1 + 1) = z at *
  rcases Nat.lt_trichotomy q r with hq | hq | hq
  · have : (n + 1 + 1) * (q + 1) ≤ (n + 1 + 1) * r := Nat.mul_le_mul_left _ hq
    rw [Nat.mul_succ] at this
    omega
  · subst hq; omega
  · have : (n + 1 + 1) * (r + 1) ≤ (n + 1 + 1) * q := Nat.mul_le_mul_left _ hq
    rw [Nat.mul_succ] at this
    omega

/-- How many like c. -/
def cl (c : Bool) : List Bool → Nat
  | [] => 0
  | b :: l => (if b = c then 1 else 0) + cl c l
/-- How many bits up to so many that are like c. -/
def bh (c : Bool) : List Bool → Nat → Nat
  | _, 0 => 0
  | [], _ + 1 => 0
  | b :: l, m + 1 => (if b = c then bh c l m else bh c l (m + 1)) + 1
theorem bh_zero (c : Bool) (l : List Bool) : bh c l 0 = 0 := by cases l <;> rfl
theorem cl_true (l : List Bool) : cl true l = ct l := by
  induction l with
  | nil => rfl
  | cons b l ih =>
    show (if b = true then 1 else 0) + cl true l = (if b then 1 else 0) + ct l
    rw [ih]
theorem cl_false (l : List Bool) : cl false l + ct l = l.length := by
  induction l with
  | nil => rfl
  | cons b l ih =>
    show (if b = false then 1 else 0) + cl false l + ((if b then 1 else 0) + ct l) = l.length + 1
    cases b <;> simp <;> omega
theorem bh_le (c : Bool) : ∀ (l : List Bool) (m : Nat), bh c l m ≤ l.length
  | l, 0 => by rw [bh_zero]; exact Nat.zero_le _
  | [], m + 1 => Nat.le_refl 0
  | b :: l, m + 1 => by
    have h1 := bh_le c l m
    have h2 := bh_le c l (m + 1)
    show (if b = c then bh c l m else bh c l (m + 1)) + 1 ≤ l.length + 1
    split <;> omega
theorem bh_left (c : Bool) : ∀ (l : List Bool) (m : Nat), m ≤ cl c l → cl c (l.drop (bh c l m)) + m = cl c l
  | l, 0, _ => by rw [bh_zero]; rfl
  | [], m + 1, h => absurd h (Nat.not_succ_le_zero m)
  | b :: l, m + 1, h => by
    have h0 : m + 1 ≤ (if b = c then 1 else 0) + cl c l := h
    show cl c ((b :: l).drop ((if b = c then bh c l m else bh c l (m + 1)) + 1)) + (m + 1) = (if b = c then 1 else 0) + cl c l
    rw [List.drop_succ_cons]
    by_cases hb : b = c
    · simp only [if_pos hb] at h0 ⊢
      have := bh_left c l m (by omega)
      omega
    · simp only [if_neg hb] at h0 ⊢
      have := bh_left c l (m + 1) (by omega)
      omega
theorem bh_true {l : List Bool} {m : Nat} (h : m ≤ ct l) : ct (l.drop (bh true l m)) + m = ct l := by
  have := bh_left true l m (by rw [cl_true]; exact h)
  rw [cl_true, cl_true] at this
  exact this
theorem bh_false {l : List Bool} {m : Nat} (h : m + ct l ≤ l.length) : ct (l.drop (bh false l m)) + bh false l m = ct l + m := by
  have h1 := cl_false l
  have h2 := bh_left false l m (by omega)
  have h3 := cl_false (l.drop (bh false l m))
  have h4 := bh_le false l m
  rw [List.length_drop] at h3
  omega
/-- One step of the search. -/
theorem bh_step (c : Bool) {l : List Bool} {k m : Nat} (h : m + 1 ≤ cl c (l.drop k)) : k < l.length ∧ bh c (l.drop k) (m + 1) = (if l.getD k false = c then bh c (l.drop (k + 1)) m else bh c (l.drop (k + 1)) (m + 1)) + 1 ∧
    (if l.getD k false = c then m else m + 1) ≤ cl c (l.drop (k + 1)) := by
  have hk : k < l.length := by
    rcases Nat.lt_or_ge k l.length with h' | h'
    · exact h'
    · rw [List.drop_eq_nil_of_le h'] at h
      exact absurd h (Nat.not_succ_le_zero m)
  have e : l.getD k false = l[k] := by simp [List.getD_eq_getElem?_getD, hk]
  rw [e]
  rw [List.drop_eq_getElem_cons hk] at h ⊢
  refine ⟨hk, rfl, ?_⟩
  have h0 : m + 1 ≤ (if l[k] = c then 1 else 0) + cl c (l.drop (k + 1)) := h
  split
  · rename_i hh; rw [if_pos hh] at h0; omega
  · rename_i hh; rw [if_neg hh] at h0; omega

/-- How much is missing of the sum. -/
def ms (a : Nat) (l : List Bool) : Nat := (a + (l.length + 1) + 1 - ps 0 l % (l.length + 1 + 1)) % (l.length + 1 + 1)
/-- The bits, one more than there are, whose sum is a. -/
def fl (a : Nat) (l : List Bool) : List Bool := if ms a l ≤ ct l then ins (bh true l (ct l - ms a l)) false l else ins (bh false l (ms a l - ct l - 1)) true l

theorem ms_le (a : Nat) (l : List Bool) : ms a l ≤ l.length + 1 := by
  have : ms a l < l.length + 1 + 1 := Nat.mod_lt _ (by omega)
  omega
theorem ms_sum {a : Nat} {l : List Bool} (h : a ≤ l.length + 1) : (ps 0 l + ms a l) % (l.length + 1 + 1) = a := by
  unfold ms
  generalize ps 0 l = p at *
  generalize l.length = n at *
  have h1 : p % (n + 1 + 1) < n + 1 + 1 := Nat.mod_lt _ (by omega)
  have h2 := Nat.mod_add_div p (n + 1 + 1)
  rw [Nat.add_mod_mod]
  have e : p + (a + (n + 1) + 1 - p % (n + 1 + 1)) = a + (n + 1 + 1) * (p / (n + 1 + 1) + 1) := by
    rw [Nat.mul_succ]
    omega
  rw [e, Nat.add_mul_mod_self_left, Nat.mod_eq_of_lt (by omega)]
theorem fl_is (a : Nat) (l : List Bool) : ∃ k b, k ≤ l.length ∧ fl a l = ins k b l ∧ dl k b l = ms a l := by
  have h1 := ms_le a l
  unfold fl
  by_cases h : ms a l ≤ ct l
  · rw [if_pos h]
    refine ⟨_, _, bh_le true l _, rfl, ?_⟩
    have := bh_true (l := l) (m := ct l - ms a l) (by omega)
    unfold dl
    simp
    omega
  · rw [if_neg h]
    refine ⟨_, _, bh_le false l _, rfl, ?_⟩
    have := bh_false (l := l) (m := ms a l - ct l - 1) (by omega)
    unfold dl
    simp
    omega
theorem fl_sum {a : Nat} {l : List Bool} (h : a ≤ l.length + 1) : sm (fl a l) = a := by
  obtain ⟨k, b, hk, e, hd⟩ := fl_is a l
  rw [e]
  unfold sm
  rw [ins_len, ps_ins b hk, hd, ms_sum h]
theorem fl_len (a : Nat) (l : List Bool) : (fl a l).length = l.length + 1 := by
  obtain ⟨k, b, _, e, _⟩ := fl_is a l
  rw [e, ins_len]
theorem fl_uniq {a k : Nat} {b : Bool} {l : List Bool} (ha : a ≤ l.length + 1) (hk : k ≤ l.length) (h : sm (ins k b l) = a) : ins k b l = fl a l := by
  obtain ⟨j, c, hj, e, _⟩ := fl_is a l
  rw [e]
  refine ins_uniq hk hj ?_
  rw [h, ← e, fl_sum ha]
/-- What is left of bits tells them, by their sum. -/
theorem fl_wo {k : Nat} {l : List Bool} (h : k < l.length) : fl (sm l) (wo k l) = l := by
  have h1 := wo_len h
  have h2 := sm_le l
  have h3 := ins_wo h
  have := fl_uniq (a := sm l) (k := k) (b := l.getD k false) (l := wo k l) (by omega) (by omega) (by rw [h3])
  rw [← this, h3]
theorem apart {i j : Nat} {a b : List Bool} (hi : i < a.length) (hj : j < b.length) (hs : sm a = sm b) (h : wo i a = wo j b) : a = b := by
  rw [← fl_wo hi, ← fl_wo hj, hs, h]

end Go.Proofs.Ytofdinddloejbaa
