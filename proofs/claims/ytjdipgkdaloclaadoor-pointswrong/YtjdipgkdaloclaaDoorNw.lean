/-
  Newton: the numbers, k of them, whose sums at k places are what is asked; and there is but one list of them. Nothing here speaks of the program.
-/
import Derived.Test.YtjdipgkdaloclaaDoorRt
namespace Go.Proofs.YtjdipgkdaloclaaDoor

/-- Numbers by their number. -/
abbrev nl (f : Nat → Nat) (n : Nat) : List Nat := (List.range n).map f
theorem nl_len (f : Nat → Nat) (n : Nat) : (nl f n).length = n := by simp
theorem nl_at (f : Nat → Nat) {n i : Nat} (h : i < n) : (nl f n).getD i 0 = f i := by simp [List.getD_eq_getElem?_getD, h]
theorem nl_self (l : List Nat) : nl (fun i => l.getD i 0) l.length = l := by
  apply List.ext_getElem
  · simp
  · intro i h1 h2
    simp [List.getD_eq_getElem?_getD, h2]
theorem nl_congr {f g : Nat → Nat} {n : Nat} (h : ∀ i, i < n → f i = g i) : nl f n = nl g n := List.map_congr_left (fun i hi => h i (List.mem_range.1 hi))
theorem nl_lt {f : Nat → Nat} {n : Nat} (h : ∀ i, i < n → f i < 16) : ∀ c ∈ nl f n, c < 16 := by
  intro c hc
  obtain ⟨i, hi, rfl⟩ := List.mem_map.1 hc
  exact h i (List.mem_range.1 hi)
theorem nl_cons (f : Nat → Nat) (n : Nat) : nl f (n + 1) = f 0 :: nl (fun i => f (i + 1)) n := by
  unfold nl
  rw [List.range_succ_eq_map, List.map_cons, List.map_map]
  rfl
theorem nl_snoc (f : Nat → Nat) (n : Nat) : nl f (n + 1) = nl f n ++ [f n] := by
  unfold nl
  rw [List.range_succ, List.map_append]
  rfl

theorem ev_xor {y : Nat} (hy : y < 16) : ∀ {n : Nat} {f g : Nat → Nat}, (∀ i, i < n → f i < 16) → (∀ i, i < n → g i < 16) → ev y (nl (fun i => f i ^^^ g i) n) = ev y (nl f n) ^^^ ev y (nl g n)
  | 0, _, _, _, _ => by
    show 0 = 0 ^^^ 0
    rfl
  | n + 1, f, g, hf, hg => by
    rw [nl_cons, nl_cons, nl_cons]
    have ih := ev_xor hy (n := n) (f := fun i => f (i + 1)) (g := fun i => g (i + 1)) (fun i hi => hf _ (by omega)) (fun i hi => hg _ (by omega))
    have l1 := ev_lt hy (nl_lt (n := n) (f := fun i => f (i + 1)) (fun i hi => hf _ (by omega)))
    have l2 := ev_lt hy (nl_lt (n := n) (f := fun i => g (i + 1)) (fun i hi => hg _ (by omega)))
    show gm (ev y (nl (fun i => f (i + 1) ^^^ g (i + 1)) n)) y ^^^ (f 0 ^^^ g 0) = (gm _ y ^^^ f 0) ^^^ (gm _ y ^^^ g 0)
    rw [ih, xor_gm l1 l2 hy]
    simp only [Nat.xor_assoc]
    congr 1
    rw [← Nat.xor_assoc, Nat.xor_comm _ (f 0), Nat.xor_assoc]
theorem ev_scale {y c : Nat} (hy : y < 16) (hc : c < 16) : ∀ {n : Nat} {g : Nat → Nat}, (∀ i, i < n → g i < 16) → ev y (nl (fun i => gm c (g i)) n) = gm c (ev y (nl g n))
  | 0, _, _ => by
    show 0 = gm c 0
    rw [gm_comm hc (by omega), zero_gm hc]
  | n + 1, g, hg => by
    rw [nl_cons, nl_cons]
    have ih := ev_scale hy hc (n := n) (g := fun i => g (i + 1)) (fun i hi => hg _ (by omega))
    have l2 := ev_lt hy (nl_lt (n := n) (f := fun i => g (i + 1)) (fun i hi => hg _ (by omega)))
    show gm (ev y (nl (fun i => gm c (g (i + 1))) n)) y ^^^ gm c (g 0) = gm c (gm _ y ^^^ g 0)
    rw [ih, gm_assoc hc l2 hy, gm_xor hc (gm_lt l2 hy) (hg 0 (by omega))]
theorem ev_zero {y : Nat} (hy : y < 16) : ∀ {n : Nat} {f : Nat → Nat}, f n = 0 → ev y (nl f (n + 1)) = ev y (nl f n)
  | 0, f, h => by
    rw [nl_cons]
    show gm 0 y ^^^ f 0 = 0
    rw [h, zero_gm hy]
    rfl
  | n + 1, f, h => by
    rw [nl_cons, nl_cons f n]
    show gm (ev y (nl (fun i => f (i + 1)) (n + 1))) y ^^^ f 0 = gm _ y ^^^ f 0
    rw [ev_zero hy (n := n) (f := fun i => f (i + 1)) h]
theorem ev_zeros {y : Nat} (hy : y < 16) {f : Nat → Nat} {k : Nat} (h : ∀ i, k ≤ i → f i = 0) : ∀ d : Nat, ev y (nl f (k + d)) = ev y (nl f k)
  | 0 => rfl
  | d + 1 => by rw [← Nat.add_assoc, ev_zero hy (h _ (by omega)), ev_zeros hy h d]

/-- Times (X + x), and one number ahead. -/
def mx (x : Nat) : Nat → List Nat → List Nat
  | c, [] => [c]
  | c, a :: t => (gm a x ^^^ c) :: mx x a t
theorem mx_len (x : Nat) : ∀ (c : Nat) (l : List Nat), (mx x c l).length = l.length + 1
  | _, [] => rfl
  | _, a :: t => congrArg (· + 1) (mx_len x a t)
theorem mx_lt {x : Nat} (hx : x < 16) : ∀ {c : Nat} {l : List Nat}, c < 16 → (∀ a ∈ l, a < 16) → ∀ a ∈ mx x c l, a < 16
  | c, [], hc, _ => fun a ha => by
    rcases List.mem_cons.1 ha with h | h
    · rw [h]; exact hc
    · cases h
  | c, d :: t, hc, hl => fun a ha => by
    have hd := hl d (List.mem_cons_self ..)
    rcases List.mem_cons.1 ha with h | h
    · rw [h]; exact xor_lt (gm_lt hd hx) hc
    · exact mx_lt hx hd (fun b hb => hl b (List.mem_cons_of_mem _ hb)) a h
theorem mx_at {x : Nat} (hx : x < 16) : ∀ (c : Nat) (l : List Nat) (k : Nat), k ≤ l.length → (mx x c l).getD k 0 = gm (l.getD k 0) x ^^^ (if k = 0 then c else l.getD (k - 1) 0)
  | c, [], 0, _ => by
    show c = gm 0 x ^^^ c
    rw [zero_gm hx, Nat.zero_xor]
  | c, [], k + 1, h => absurd h (by simp)
  | c, a :: t, 0, _ => rfl
  | c, a :: t, 1, h => by
    show (mx x a t).getD 0 0 = gm (t.getD 0 0) x ^^^ a
    rw [mx_at hx a t 0 (by omega), if_pos rfl]
  | c, a :: t, k + 2, h => by
    show (mx x a t).getD (k + 1) 0 = gm (t.getD (k + 1) 0) x ^^^ t.getD k 0
    rw [mx_at hx a t (k + 1) (by simpa using h), if_neg (by omega)]
    rfl
theorem mx_ev {x y : Nat} (hx : x < 16) (hy : y < 16) : ∀ {c : Nat} {l : List Nat}, c < 16 → (∀ a ∈ l, a < 16) → ev y (mx x c l) = gm (ev y l) (x ^^^ y) ^^^ c
  | c, [], hc, _ => by
    show gm 0 y ^^^ c = gm 0 (x ^^^ y) ^^^ c
    rw [zero_gm hy, zero_gm (xor_lt hx hy)]
  | c, a :: t, hc, hl => by
    have ha := hl a (List.mem_cons_self ..)
    have ht := fun b hb => hl b (List.mem_cons_of_mem _ hb)
    have le := ev_lt hy ht
    have lxy := xor_lt hx hy
    show gm (ev y (mx x a t)) y ^^^ (gm a x ^^^ c) = gm (gm (ev y t) y ^^^ a) (x ^^^ y) ^^^ c
    rw [mx_ev hx hy ha ht, xor_gm (gm_lt le lxy) ha hy, xor_gm (gm_lt le hy) ha lxy, gm_xor ha hx hy, gm_assoc le lxy hy, gm_comm lxy hy, ← gm_assoc le hy lxy]
    simp only [Nat.xor_assoc]
    congr 1
    rw [← Nat.xor_assoc, Nat.xor_comm (gm a y), Nat.xor_assoc]

/-- What sums up to 0 at the first k places. -/
def az (P : Nat → Nat) : Nat → List Nat
  | 0 => [1]
  | k + 1 => mx (P k + 1) 0 (az P k)
theorem az_len (P : Nat → Nat) : ∀ k, (az P k).length = k + 1
  | 0 => rfl
  | k + 1 => by rw [az, mx_len, az_len]
theorem az_lt {P : Nat → Nat} : ∀ {k : Nat}, (∀ i, i < k → P i < 15) → ∀ a ∈ az P k, a < 16
  | 0, _ => fun a ha => by
    rcases List.mem_cons.1 ha with h | h
    · omega
    · cases h
  | k + 1, h => mx_lt (by have := h k (by omega); omega) (by omega) (az_lt (fun i hi => h i (by omega)))
theorem az_ev {P : Nat → Nat} {k y : Nat} (h : ∀ i, i < k + 1 → P i < 15) (hy : y < 16) : ev y (az P (k + 1)) = gm (ev y (az P k)) ((P k + 1) ^^^ y) := by
  have := h k (by omega)
  rw [az, mx_ev (by omega) hy (by omega) (az_lt (fun i hi => h i (by omega))), Nat.xor_zero]
theorem az_zero {P : Nat → Nat} : ∀ {k i : Nat}, (∀ i, i < k → P i < 15) → i < k → ev (P i + 1) (az P k) = 0
  | k + 1, i, h, hi => by
    have hP := h i hi
    have le := ev_lt (x := P i + 1) (by omega) (az_lt (P := P) (k := k) (fun i hi => h i (by omega)))
    rw [az_ev h (by omega)]
    rcases Nat.lt_succ_iff_lt_or_eq.1 hi with h' | rfl
    · rw [az_zero (fun i hi => h i (by omega)) h', zero_gm (xor_lt (by have := h k (by omega); omega) (by omega))]
    · rw [Nat.xor_self, gm_comm le (by omega), zero_gm le]
theorem az_some {P : Nat → Nat} {q : Nat} (hq : q < 15) : ∀ {k : Nat}, (∀ i, i < k → P i < 15) → (∀ i, i < k → P i ≠ q) → ev (q + 1) (az P k) ≠ 0
  | 0, _, _ => by
    show gm 0 (q + 1) ^^^ 1 ≠ 0
    rw [zero_gm (by omega)]
    decide
  | k + 1, h, hne => by
    have hP := h k (by omega)
    have le := ev_lt (x := q + 1) (by omega) (az_lt (P := P) (k := k) (fun i hi => h i (by omega)))
    rw [az_ev h (by omega)]
    intro h0
    rcases gm_none le (xor_lt (by omega) (by omega)) h0 with h1 | h1
    · exact az_some hq (fun i hi => h i (by omega)) (fun i hi => hne i (by omega)) h1
    · have := xor_zero_iff h1
      exact hne k (by omega) (by omega)

/-- How much of it is put to the numbers D. -/
def mnf (L P : Nat → Nat) (k : Nat) (D : Nat → Nat) : Nat := gm (L (P k) ^^^ ev (P k + 1) (nl D k)) (iv (ev (P k + 1) (az P k)))
/-- The numbers, when k places have been. -/
def nd (L P : Nat → Nat) : Nat → Nat → Nat
  | 0 => fun _ => 0
  | k + 1 => fun m => nd L P k m ^^^ gm (mnf L P k (nd L P k)) ((az P k).getD m 0)
abbrev mn (L P : Nat → Nat) (k : Nat) : Nat := mnf L P k (nd L P k)

/-- The places are such, and what is asked at them. -/
structure Plc (L P : Nat → Nat) (K : Nat) : Prop where
  low : ∀ i, i < K → P i < 15
  val : ∀ i, i < K → L (P i) < 16
  one : ∀ i j, i < K → j < K → P i = P j → i = j
theorem Plc.less {L P : Nat → Nat} {K k : Nat} (h : Plc L P K) (hk : k ≤ K) : Plc L P k := ⟨fun i hi => h.low i (by omega), fun i hi => h.val i (by omega), fun i j hi hj => h.one i j (by omega) (by omega)⟩

theorem getD_lt {l : List Nat} (h : ∀ a ∈ l, a < 16) (m : Nat) : l.getD m 0 < 16 := by
  rw [List.getD_eq_getElem?_getD]
  by_cases hm : m < l.length
  · rw [List.getElem?_eq_getElem hm]
    exact h _ (List.getElem_mem hm)
  · rw [List.getElem?_eq_none (by omega)]
    decide

theorem nd_mn {L P : Nat → Nat} : ∀ {k : Nat}, Plc L P k → (∀ m, nd L P k m < 16) ∧ (∀ j, j < k → mn L P j < 16)
  | 0, _ => ⟨fun m => by show 0 < 16; omega, fun j hj => by omega⟩
  | k + 1, h => by
    have ih := nd_mn (h.less (Nat.le_succ k))
    have hz := az_lt (P := P) (k := k) (fun i hi => h.low i (by omega))
    have hp := h.low k (by omega)
    have hm : mn L P k < 16 := gm_lt (xor_lt (h.val k (by omega)) (ev_lt (by omega) (nl_lt (fun i _ => ih.1 i)))) (iv_lt (ev_lt (by omega) hz))
    refine ⟨fun m => xor_lt (ih.1 m) (gm_lt hm (getD_lt hz m)), fun j hj => ?_⟩
    rcases Nat.lt_succ_iff_lt_or_eq.1 hj with h' | rfl
    · exact ih.2 j h'
    · exact hm
theorem nd_lt {L P : Nat → Nat} {k : Nat} (h : Plc L P k) (m : Nat) : nd L P k m < 16 := (nd_mn h).1 m
theorem mn_lt {L P : Nat → Nat} {k : Nat} (h : Plc L P (k + 1)) : mn L P k < 16 := (nd_mn h).2 k (by omega)
theorem nd_none {L P : Nat → Nat} : ∀ {k m : Nat}, Plc L P k → k ≤ m → nd L P k m = 0
  | 0, _, _, _ => rfl
  | k + 1, m, h, hm => by
    show nd L P k m ^^^ gm (mn L P k) ((az P k).getD m 0) = 0
    have e : (az P k).getD m 0 = 0 := by
      rw [List.getD_eq_getElem?_getD, List.getElem?_eq_none (by rw [az_len]; omega)]
      rfl
    rw [nd_none (h.less (Nat.le_succ k)) (by omega), e, gm_zero (mn_lt h)]
    rfl
theorem nd_next {L P : Nat → Nat} {k y : Nat} (h : Plc L P (k + 1)) (hy : y < 16) : ev y (nl (nd L P (k + 1)) (k + 1)) = ev y (nl (nd L P k) k) ^^^ gm (mn L P k) (ev y (az P k)) := by
  have hz := az_lt (P := P) (k := k) (fun i hi => h.low i (by omega))
  have h0 := h.less (Nat.le_succ k)
  have e1 : nl (nd L P (k + 1)) (k + 1) = nl (fun m => nd L P k m ^^^ gm (mn L P k) ((az P k).getD m 0)) (k + 1) := rfl
  rw [e1, ev_xor hy (fun i _ => nd_lt h0 i) (fun i _ => gm_lt (mn_lt h) (getD_lt hz i)), ev_scale hy (mn_lt h) (fun i _ => getD_lt hz i), ev_zero hy (nd_none h0 (Nat.le_refl _))]
  have := nl_self (az P k)
  rw [az_len] at this
  rw [this]
theorem nd_val {L P : Nat → Nat} : ∀ {k i : Nat}, Plc L P k → i < k → ev (P i + 1) (nl (nd L P k) k) = L (P i)
  | k + 1, i, h, hi => by
    have hz := az_lt (P := P) (k := k) (fun i hi => h.low i (by omega))
    have h0 := h.less (Nat.le_succ k)
    have hp := h.low i hi
    have hq := h.low k (by omega)
    rw [nd_next h (by omega)]
    rcases Nat.lt_succ_iff_lt_or_eq.1 hi with h' | rfl
    · rw [az_zero h0.low h', gm_zero (mn_lt h), nd_val h0 h', Nat.xor_zero]
    · have le := ev_lt (x := P i + 1) (by omega) hz
      have ne := az_some hp h0.low (fun j hj e => by have := h.one j i (by omega) (by omega) e; omega)
      have ld := ev_lt (x := P i + 1) (by omega) (nl_lt (n := i) (f := nd L P i) (fun j _ => nd_lt h0 j))
      have lv := h.val i hi
      show _ ^^^ gm (gm (L (P i) ^^^ ev (P i + 1) (nl (nd L P i) i)) (iv (ev (P i + 1) (az P i)))) (ev (P i + 1) (az P i)) = _
      rw [gm_assoc (xor_lt lv ld) (iv_lt le) le, gm_comm (iv_lt le) le, (iv_one le ne).1, gm_comm (xor_lt lv ld) (by omega), gm_one (xor_lt lv ld), Nat.xor_comm, Nat.xor_assoc, Nat.xor_self, Nat.xor_zero]
/-- .. as a list of N numbers, some of which may be 0 yet. -/
theorem nd_long {L P : Nat → Nat} {k n y : Nat} (h : Plc L P k) (hn : k ≤ n) (hy : y < 16) : ev y (nl (nd L P k) n) = ev y (nl (nd L P k) k) := by
  obtain ⟨d, rfl⟩ : ∃ d, n = k + d := ⟨n - k, by omega⟩
  exact ev_zeros hy (fun i hi => nd_none h hi) d

/-- As many numbers that are not the same as one another, each of which is one of those below n of a kind. -/
theorem few {q : Nat → Bool} : ∀ {n k : Nat} {P : Nat → Nat}, (∀ i, i < k → P i < n ∧ q (P i) = true) → (∀ i j, i < k → j < k → P i = P j → i = j) → k ≤ (List.range n).countP q := by
  have main : ∀ (L M : List Nat), L.Nodup → (∀ x ∈ L, x ∈ M ∧ q x = true) → L.length ≤ M.countP q := by
    intro L
    induction L with
    | nil => intro M _ _; simp
    | cons x t ih =>
      intro M hn hm
      have hx := hm x (List.mem_cons_self ..)
      have hnd := List.nodup_cons.1 hn
      have := ih (M.erase x) hnd.2 (fun y hy => ⟨(List.mem_erase_of_ne (fun e => hnd.1 (by rw [e] at hy; exact hy))).2 (hm y (List.mem_cons_of_mem _ hy)).1, (hm y (List.mem_cons_of_mem _ hy)).2⟩)
      have e := (List.perm_cons_erase hx.1).countP_eq q
      rw [List.countP_cons, hx.2] at e
      simp only [List.length_cons]
      rw [e]
      simp
      omega
  intro n k P h1 h2
  have := main ((List.range k).map P) (List.range n) (by
      show List.Pairwise (· ≠ ·) _
      rw [List.pairwise_map]
      refine List.Pairwise.imp_of_mem (fun {a b} ha hb hab e => ?_) (List.pairwise_lt_range (n := k))
      have := h2 a b (List.mem_range.1 ha) (List.mem_range.1 hb) e
      omega) (by
      intro x hx
      obtain ⟨i, hi, rfl⟩ := List.mem_map.1 hx
      have := h1 i (List.mem_range.1 hi)
      exact ⟨List.mem_range.2 this.1, this.2⟩)
  simpa using this

/-- Two lists of k numbers that are the same at k places are the same. -/
theorem same {f g : Nat → Nat} {k : Nat} {P : Nat → Nat} (hf : ∀ i, i < k → f i < 16) (hg : ∀ i, i < k → g i < 16) (hP : ∀ i, i < k → P i < 16) (h1 : ∀ i j, i < k → j < k → P i = P j → i = j)
    (h : ∀ i, i < k → ev (P i) (nl f k) = ev (P i) (nl g k)) : ∀ i, i < k → f i = g i := by
  have hx : ∀ c ∈ nl (fun i => f i ^^^ g i) k, c < 16 := nl_lt (fun i hi => xor_lt (hf i hi) (hg i hi))
  by_cases hz : ∀ c ∈ nl (fun i => f i ^^^ g i) k, c = 0
  · intro i hi
    exact xor_zero_iff (hz _ (List.mem_map.2 ⟨i, List.mem_range.2 hi, rfl⟩))
  · have l1 := lagrange k _ (nl_len _ _) hx hz
    have l2 : k ≤ rt (nl (fun i => f i ^^^ g i) k) 16 := few (fun i hi => ⟨hP i hi, by
      have : ev (P i) (nl (fun i => f i ^^^ g i) k) = 0 := by rw [ev_xor (hP i hi) hf hg, h i hi, Nat.xor_self]
      simp [this]⟩) h1
    omega

end Go.Proofs.YtjdipgkdaloclaaDoor
