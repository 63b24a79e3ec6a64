/-
  Trees whose leaves stand in order, in plain mathematics: what they cost, and which of them is the first of those that cost least.
-/
import Derived.Test.YtakggfogoobdnaaBase
namespace Go.Proofs.Ytakggfogoobdnaa

/-- What words of these lengths cost. -/
def dot : List Nat → List Nat → Nat
  | w :: ws, l :: ls => w * l + dot ws ls
  | _, _ => 0

@[simp] theorem dot_nil (l : List Nat) : dot [] l = 0 := by cases l <;> rfl
@[simp] theorem dot_nil' (l : List Nat) : dot l [] = 0 := by cases l <;> rfl
@[simp] theorem dot_cons (w l : Nat) (ws ls : List Nat) : dot (w :: ws) (l :: ls) = w * l + dot ws ls := rfl

/-- One bit more for each. -/
def up1 (l : List Nat) : List Nat := l.map (· + 1)
@[simp] theorem up1_length (l : List Nat) : (up1 l).length = l.length := by simp [up1]
@[simp] theorem up1_nil : up1 [] = [] := rfl
@[simp] theorem up1_cons (x : Nat) (l : List Nat) : up1 (x :: l) = (x + 1) :: up1 l := rfl

/-- The depths of a tree's leaves, from the first one on. -/
inductive AT : List Nat → Prop
  | leaf : AT [0]
  | join {a b : List Nat} (ha : AT a) (hb : AT b) : AT (up1 (a ++ b))

theorem AT.pos {l : List Nat} (h : AT l) : 0 < l.length := by
  induction h with
  | leaf => simp
  | join _ _ h1 h2 => simp; omega

theorem AT.deep {l : List Nat} (h : AT l) : ∀ d ∈ l, d < l.length := by
  induction h with
  | leaf => simp
  | @join a b ha hb h1 h2 =>
    intro d hd
    have := ha.pos
    have := hb.pos
    obtain ⟨x, hx, rfl⟩ := List.mem_map.1 hd
    rcases List.mem_append.1 hx with hx | hx
    · have := h1 x hx; simp; omega
    · have := h2 x hx; simp; omega

theorem AT.split {l : List Nat} (h : AT l) (h2 : 2 ≤ l.length) : ∃ a b, AT a ∧ AT b ∧ l = up1 (a ++ b) := by
  cases h with
  | leaf => simp at h2
  | join ha hb => exact ⟨_, _, ha, hb, rfl⟩

theorem AT.one {l : List Nat} (h : AT l) (h1 : l.length = 1) : l = [0] := by
  cases h with
  | leaf => rfl
  | join ha hb => have := ha.pos; have := hb.pos; simp at h1; omega

/-- So many leaves. -/
def TT (n : Nat) (l : List Nat) : Prop := l.length = n ∧ (n = 0 ∨ AT l)

theorem TT.le {n : Nat} {l : List Nat} (h : TT n l) : ∀ d ∈ l, d < n := by
  obtain ⟨rfl, h⟩ := h
  rcases h with h | h
  · intro d hd
    have := List.eq_nil_of_length_eq_zero h
    subst this
    cases hd
  · exact h.deep

theorem TT.get {n : Nat} {l : List Nat} (h : TT n l) (h8 : n ≤ 8) (i : Nat) : l.getD i 0 ≤ 8 := by
  rw [List.getD_eq_getElem?_getD]
  cases hq : l[i]? with
  | none => simp
  | some v => have := h.le v (List.mem_of_getElem? hq); simp; omega

theorem TT.nil : TT 0 [] := ⟨rfl, .inl rfl⟩
theorem TT.one : TT 1 [0] := ⟨rfl, .inr .leaf⟩
theorem TT.zero {l : List Nat} (h : TT 0 l) : l = [] := List.eq_nil_of_length_eq_zero h.1
theorem TT.is_one {l : List Nat} (h : TT 1 l) : l = [0] := by
  rcases h.2 with h' | h'
  · omega
  · exact h'.one h.1
theorem TT.at {n : Nat} {l : List Nat} (h : TT n l) (hn : 0 < n) : AT l := by
  rcases h.2 with h' | h'
  · omega
  · exact h'
theorem TT.join {n m : Nat} {a b : List Nat} (ha : TT n a) (hb : TT m b) (hn : 0 < n) (hm : 0 < m) : TT (n + m) (up1 (a ++ b)) :=
  ⟨by simp [ha.1, hb.1], .inr (.join (ha.at hn) (hb.at hm))⟩
theorem TT.split {n : Nat} {l : List Nat} (h : TT n l) (hn : 2 ≤ n) : ∃ k a b, 0 < k ∧ k < n ∧ TT k a ∧ TT (n - k) b ∧ l = up1 (a ++ b) := by
  have h2 := h.at (by omega)
  obtain ⟨a, b, ha, hb, rfl⟩ := h2.split (by rw [h.1]; exact hn)
  have := ha.pos
  have := hb.pos
  have hl := h.1
  simp at hl
  exact ⟨a.length, a, b, by omega, by omega, ⟨rfl, .inr ha⟩, ⟨by omega, .inr hb⟩, rfl⟩

/-- Has the first list the lesser number where both first differ? -/
def ll : List Nat → List Nat → Bool
  | a :: as, b :: bs => decide (a < b) || (a == b && ll as bs)
  | [], _ :: _ => true
  | _, [] => false

@[simp] theorem ll_nil (l : List Nat) : ll l [] = false := by cases l <;> rfl
theorem ll_cons (a b : Nat) (as bs : List Nat) : ll (a :: as) (b :: bs) = (decide (a < b) || (a == b && ll as bs)) := rfl

theorem ll_cons_false {a b : Nat} {as bs : List Nat} : ll (a :: as) (b :: bs) = false ↔ b ≤ a ∧ (a = b → ll as bs = false) := by
  rw [ll_cons, Bool.or_eq_false_iff, decide_eq_false_iff_not, Bool.and_eq_false_imp, beq_iff_eq, Nat.not_lt]
theorem ll_cons_true {a b : Nat} {as bs : List Nat} : ll (a :: as) (b :: bs) = true ↔ a < b ∨ (a = b ∧ ll as bs = true) := by
  rw [ll_cons, Bool.or_eq_true, decide_eq_true_eq, Bool.and_eq_true, beq_iff_eq]

theorem nl_self : ∀ a : List Nat, ll a a = false
  | [] => rfl
  | _ :: a => ll_cons_false.2 ⟨Nat.le_refl _, fun _ => nl_self a⟩

theorem nl_trans : ∀ {a b c : List Nat}, ll b a = false → ll c b = false → ll c a = false
  | [], _, _, _, _ => ll_nil _
  | _ :: _, [], _, h, _ => by cases h
  | _ :: _, _ :: _, [], _, h => by cases h
  | _ :: as, _ :: bs, _ :: cs, h1, h2 => by
    rw [ll_cons_false] at h1 h2 ⊢
    refine ⟨by omega, fun e => ?_⟩
    exact nl_trans (h1.2 (by omega)) (h2.2 (by omega))

theorem ll_asymm : ∀ {a b : List Nat}, ll a b = true → ll b a = false
  | _, [], h => by rw [ll_nil] at h; cases h
  | [], _ :: _, _ => rfl
  | x :: as, y :: bs, h => by
    rw [ll_cons_true] at h
    rw [ll_cons_false]
    rcases h with h | ⟨h, h'⟩
    · exact ⟨by omega, fun e => by omega⟩
    · exact ⟨by omega, fun _ => ll_asymm h'⟩

theorem nl_antisymm : ∀ {a b : List Nat}, ll a b = false → ll b a = false → a = b
  | [], [], _, _ => rfl
  | [], _ :: _, h, _ => by cases h
  | _ :: _, [], _, h => by cases h
  | x :: as, y :: bs, h1, h2 => by
    rw [ll_cons_false] at h1 h2
    have e : x = y := by omega
    subst e
    rw [nl_antisymm (h1.2 rfl) (h2.2 rfl)]

theorem nl_app : ∀ {a a' b b' : List Nat}, a.length = a'.length → ll a' a = false → ll b' b = false → ll (a' ++ b') (a ++ b) = false
  | [], [], _, _, _, _, h => h
  | [], _ :: _, _, _, h, _, _ => by simp at h
  | _ :: _, [], _, _, h, _, _ => by simp at h
  | x :: as, y :: bs, b, b', h, h1, h2 => by
    rw [ll_cons_false] at h1
    simp only [List.cons_append]
    rw [ll_cons_false]
    exact ⟨h1.1, fun e => nl_app (by simpa using h) (h1.2 e) h2⟩

theorem ll_up : ∀ a b : List Nat, ll (up1 a) (up1 b) = ll a b
  | [], [] => rfl
  | [], _ :: _ => rfl
  | _ :: _, [] => rfl
  | x :: as, y :: bs => by
    rw [up1_cons, up1_cons, ll_cons, ll_cons, ll_up as bs]
    congr 1
    · rw [Bool.eq_iff_iff]; simp
    · congr 1
      rw [Bool.eq_iff_iff]; simp

theorem dot_append : ∀ (v a : List Nat) (u b : List Nat), a.length = v.length → dot (v ++ u) (a ++ b) = dot v a + dot u b
  | [], [], _, _, _ => by simp
  | [], _ :: _, _, _, h => by simp at h
  | _ :: _, [], _, _, h => by simp at h
  | w :: v, x :: a, u, b, h => by
    simp only [List.cons_append, dot_cons]
    rw [dot_append v a u b (by simpa using h)]
    omega

theorem dot_up : ∀ (v a : List Nat), a.length = v.length → dot v (up1 a) = dot v a + v.sum
  | [], [], _ => by simp
  | [], _ :: _, h => by simp at h
  | _ :: _, [], h => by simp at h
  | w :: v, x :: a, h => by
    rw [up1_cons, dot_cons, dot_cons, dot_up v a (by simpa using h), List.sum_cons, Nat.mul_succ]
    omega

/-- The first one comes no later: it costs less, or as much and is not behind. -/
def Le (v l m : List Nat) : Prop := dot v l < dot v m ∨ (dot v l = dot v m ∧ ll m l = false)

theorem Le.refl (v l : List Nat) : Le v l l := .inr ⟨rfl, nl_self l⟩
theorem Le.trans {v a b c : List Nat} (h : Le v a b) (k : Le v b c) : Le v a c := by
  rcases h with h | ⟨h, h'⟩ <;> rcases k with k | ⟨k, k'⟩
  · exact .inl (by omega)
  · exact .inl (by omega)
  · exact .inl (by omega)
  · exact .inr ⟨by omega, nl_trans h' k'⟩
/-- Is it better? -/
def bt (v l m : List Nat) : Bool := decide (dot v l < dot v m) || (dot v l == dot v m && ll l m)
theorem le_of_bt {v l m : List Nat} (h : bt v l m = true) : Le v l m := by
  simp only [bt, Bool.or_eq_true, decide_eq_true_eq, Bool.and_eq_true, beq_iff_eq] at h
  rcases h with h | ⟨h, h'⟩
  · exact .inl h
  · exact .inr ⟨h, ll_asymm h'⟩
theorem le_of_nbt {v l m : List Nat} (h : bt v l m = false) : Le v m l := by
  simp only [bt, Bool.or_eq_false_iff, decide_eq_false_iff_not, Bool.and_eq_false_imp, beq_iff_eq] at h
  rcases Nat.lt_or_ge (dot v m) (dot v l) with h' | h'
  · exact .inl h'
  · have e : dot v l = dot v m := by omega
    exact .inr ⟨e.symm, h.2 e⟩

/-- The first tree of those that cost least. -/
def Opt (v l : List Nat) : Prop := TT v.length l ∧ ∀ m, TT v.length m → Le v l m

theorem Opt.eq {v l m : List Nat} (h : Opt v l) (k : Opt v m) : l = m := by
  have h1 := h.2 m k.1
  have h2 := k.2 l h.1
  rcases h1 with h1 | ⟨h1, h1'⟩ <;> rcases h2 with h2 | ⟨h2, h2'⟩
  · omega
  · omega
  · omega
  · exact nl_antisymm h2' h1'

theorem opt_nil : Opt [] [] := ⟨TT.nil, fun m hm => by rw [TT.zero hm]; exact Le.refl _ _⟩
theorem opt_one (w : Nat) : Opt [w] [0] := ⟨TT.one, fun m hm => by rw [TT.is_one hm]; exact Le.refl _ _⟩

theorem join_cost {v u a b : List Nat} (ha : a.length = v.length) (hb : b.length = u.length) : dot (v ++ u) (up1 (a ++ b)) = dot v a + dot u b + (v ++ u).sum := by
  rw [dot_up _ _ (by simp [ha, hb]), dot_append _ _ _ _ ha]

theorem join_le {v u a b a' b' : List Nat} (ha : Opt v a) (hb : Opt u b) (ha' : TT v.length a') (hb' : TT u.length b') : Le (v ++ u) (up1 (a ++ b)) (up1 (a' ++ b')) := by
  have c1 := join_cost ha.1.1 hb.1.1
  have c2 := join_cost ha'.1 hb'.1
  unfold Le
  rw [c1, c2, ll_up]
  have h1 := ha.2 a' ha'
  have h2 := hb.2 b' hb'
  rcases h1 with h1 | ⟨h1, h1'⟩ <;> rcases h2 with h2 | ⟨h2, h2'⟩
  · exact .inl (by omega)
  · exact .inl (by omega)
  · exact .inl (by omega)
  · exact .inr ⟨by omega, nl_app (by rw [ha.1.1, ha'.1]) h1' h2'⟩

/-- No split makes a better one. -/
theorem opt_of_splits {v l : List Nat} (hn : 2 ≤ v.length) (hl : TT v.length l)
    (h : ∀ k, 0 < k → k < v.length → ∃ a b, Opt (v.take k) a ∧ Opt (v.drop k) b ∧ Le v l (up1 (a ++ b))) : Opt v l := by
  refine ⟨hl, fun m hm => ?_⟩
  obtain ⟨k, a', b', hk, hk', ha', hb', rfl⟩ := hm.split hn
  obtain ⟨a, b, ha, hb, hle⟩ := h k hk hk'
  have h2 := join_le ha hb (a' := a') (b' := b') (by rw [List.length_take, Nat.min_eq_left (Nat.le_of_lt hk')]; exact ha') (by rw [List.length_drop]; exact hb')
  rw [List.take_append_drop] at h2
  exact hle.trans h2

theorem split_tt {v a b : List Nat} {k : Nat} (hk : 0 < k) (hk' : k < v.length) (ha : Opt (v.take k) a) (hb : Opt (v.drop k) b) : TT v.length (up1 (a ++ b)) := by
  have h1 := ha.1
  have h2 := hb.1
  rw [List.length_take, Nat.min_eq_left (Nat.le_of_lt hk')] at h1
  rw [List.length_drop] at h2
  have := h1.join h2 hk (by omega)
  rwa [Nat.add_sub_cancel' (Nat.le_of_lt hk')] at this

theorem split_cost {v a b : List Nat} {k : Nat} (ha : Opt (v.take k) a) (hb : Opt (v.drop k) b) : dot v (up1 (a ++ b)) = dot (v.take k) a + dot (v.drop k) b + v.sum := by
  have := join_cost ha.1.1 hb.1.1
  rwa [List.take_append_drop] at this

theorem dot_le : ∀ (v l : List Nat) (M : Nat), (∀ x ∈ v, x ≤ M) → (∀ d ∈ l, d ≤ 8) → dot v l ≤ v.length * (M * 8)
  | [], l, _, _, _ => by simp
  | _ :: _, [], _, _, _ => by simp
  | w :: v, x :: l, M, h1, h2 => by
    have ih := dot_le v l M (fun y hy => h1 y (by simp [hy])) (fun y hy => h2 y (by simp [hy]))
    have : w * x ≤ M * 8 := Nat.mul_le_mul (h1 w (by simp)) (h2 x (by simp))
    simp only [dot_cons, List.length_cons, Nat.succ_mul]
    omega

theorem sum_le : ∀ (v : List Nat) (M : Nat), (∀ x ∈ v, x ≤ M) → v.sum ≤ v.length * M
  | [], _, _ => by simp
  | w :: v, M, h => by
    have ih := sum_le v M (fun y hy => h y (by simp [hy]))
    have := h w (by simp)
    simp only [List.sum_cons, List.length_cons, Nat.succ_mul]
    omega

end Go.Proofs.Ytakggfogoobdnaa
