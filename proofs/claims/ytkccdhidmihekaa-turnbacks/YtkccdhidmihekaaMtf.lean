/-
  A list of all bytes, to whose front each byte comes when it was told, in plain mathematics: the place of a byte is how many bytes came since it came last; or, if it did not, how many came or are below it.
-/
import Derived.Test.YtkccdhidmihekaaBase
namespace Go.Proofs.Ytkccdhidmihekaa

/-- All bytes, each at its own place. -/
def a256 : List Int := (List.range 256).map (fun i : Nat => (i : Int))

theorem mem_a256 {b : Int} : b ∈ a256 ↔ 0 ≤ b ∧ b < 256 := by
  unfold a256
  simp only [List.mem_map, List.mem_range]
  constructor
  · rintro ⟨i, hi, rfl⟩; omega
  · intro h; exact ⟨b.toNat, by omega, by omega⟩
theorem a256_length : a256.length = 256 := by simp [a256]
theorem a256_at (i : Nat) (h : i < a256.length) : a256[i] = (i : Int) := by simp [a256]
theorem a256_nodup : a256.Nodup := by
  unfold a256 List.Nodup
  rw [List.pairwise_map]
  have h0 : (List.range 256).Pairwise (fun a b => a < b) := List.pairwise_lt_range
  exact h0.imp (fun h => by omega)
theorem a256_idx {b : Int} (h : b ∈ a256) : a256.idxOf b = b.toNat := by
  have hb := mem_a256.1 h
  have h1 := a256_nodup.idxOf_getElem b.toNat (by rw [a256_length]; omega)
  rw [a256_at] at h1
  rw [show ((b.toNat : Nat) : Int) = b by omega] at h1
  exact h1

/-- The byte at the place comes to the front. -/
def tf (L : List Int) (p : Nat) : List Int := L.getD p 0 :: (L.take p ++ L.drop (p + 1))

/-- The list behind a text that was told (its last byte first). -/
def ls : List Int → List Int
  | [] => a256
  | x :: r => tf (ls r) ((ls r).idxOf x)

theorem tf_perm {L : List Int} {p : Nat} (h : p < L.length) : (tf L p).Perm L := by
  unfold tf
  have e : L.getD p 0 = L[p] := by simp [List.getD_eq_getElem?_getD, h]
  rw [e]
  have h2 : L = L.take p ++ L[p] :: L.drop (p + 1) := by
    rw [← List.drop_eq_getElem_cons h, List.take_append_drop]
  have h3 : (L.take p ++ L[p] :: L.drop (p + 1)).Perm (L[p] :: (L.take p ++ L.drop (p + 1))) := List.perm_middle
  exact h3.symm.trans (List.Perm.of_eq h2.symm)

/-- All are bytes. -/
def InB (r : List Int) : Prop := ∀ x ∈ r, x ∈ a256

theorem ls_perm : ∀ {r : List Int}, InB r → (ls r).Perm a256
  | [], _ => List.Perm.refl _
  | x :: r, h => by
    have ih := ls_perm (r := r) (fun y hy => h y (by simp [hy]))
    have hx : x ∈ ls r := ih.symm.subset (h x (by simp))
    exact (tf_perm (List.idxOf_lt_length_iff.2 hx)).trans ih
theorem ls_nodup {r : List Int} (h : InB r) : (ls r).Nodup := (ls_perm h).nodup_iff.2 a256_nodup
theorem ls_length {r : List Int} (h : InB r) : (ls r).length = 256 := by rw [(ls_perm h).length_eq, a256_length]
theorem mem_ls {r : List Int} (h : InB r) {b : Int} : b ∈ ls r ↔ b ∈ a256 := (ls_perm h).mem_iff
theorem ls_idx_lt {r : List Int} (h : InB r) {b : Int} (hb : b ∈ a256) : (ls r).idxOf b < 256 := by
  have := List.idxOf_lt_length_iff.2 ((mem_ls h).2 hb)
  rwa [ls_length h] at this
theorem ls_at_idx {r : List Int} (h : InB r) {b : Int} (hb : b ∈ a256) : (ls r).getD ((ls r).idxOf b) 0 = b := by
  have h1 := List.idxOf_lt_length_iff.2 ((mem_ls h).2 hb)
  rw [List.getD_eq_getElem?_getD, List.getElem?_eq_getElem h1, Option.getD_some, List.getElem_idxOf]
theorem ls_idx_at {r : List Int} (h : InB r) {p : Nat} (hp : p < 256) : (ls r).idxOf ((ls r).getD p 0) = p := by
  have h1 : p < (ls r).length := by rw [ls_length h]; exact hp
  rw [List.getD_eq_getElem?_getD, List.getElem?_eq_getElem h1, Option.getD_some]
  exact (ls_nodup h).idxOf_getElem p h1
theorem ls_at_mem {r : List Int} (h : InB r) {p : Nat} (hp : p < 256) : (ls r).getD p 0 ∈ a256 := by
  have h1 : p < (ls r).length := by rw [ls_length h]; exact hp
  rw [List.getD_eq_getElem?_getD, List.getElem?_eq_getElem h1, Option.getD_some]
  exact (mem_ls h).1 (List.getElem_mem h1)

/-- Does c stand ahead of b, behind this text (its last byte first)? -/
def ahd : List Int → Int → Int → Bool
  | [], b, c => decide (c < b)
  | x :: r, b, c => if x = b then false else (decide (c = x) || ahd r b c)

theorem idx_mid {A B : List Int} {x c : Int} (hc : c ≠ x) (hx : x ∉ A) :
    (A ++ x :: B).idxOf c = (A ++ B).idxOf c + (if (A ++ x :: B).idxOf x < (A ++ x :: B).idxOf c then 1 else 0) := by
  have hx0 : (A ++ x :: B).idxOf x = A.length := by
    rw [List.idxOf_append, if_neg hx]; simp
  rw [hx0]
  by_cases hA : c ∈ A
  · rw [List.idxOf_append, if_pos hA, List.idxOf_append, if_pos hA, if_neg]
    · rfl
    · have := List.idxOf_lt_length_iff.2 hA
      omega
  · rw [List.idxOf_append, if_neg hA, List.idxOf_append, if_neg hA, if_pos]
    · rw [List.idxOf_cons]
      have : (x == c) = false := by simp [Ne.symm hc]
      rw [this]
      simp only [cond_false]
      omega
    · rw [List.idxOf_cons]
      have : (x == c) = false := by simp [Ne.symm hc]
      rw [this]
      simp only [cond_false]
      omega

theorem split_at {L : List Int} {x : Int} (hx : x ∈ L) : ∃ A B, L = A ++ x :: B ∧ x ∉ A ∧ tf L (L.idxOf x) = x :: (A ++ B) := by
  have h := List.idxOf_lt_length_iff.2 hx
  refine ⟨L.take (L.idxOf x), L.drop (L.idxOf x + 1), ?_, ?_, ?_⟩
  · have e := List.drop_eq_getElem_cons h
    rw [List.getElem_idxOf] at e
    rw [← e, List.take_append_drop]
  · intro hm
    have e := List.take_append_drop (L.idxOf x) L
    have h1 : L.idxOf x = (L.take (L.idxOf x)).idxOf x := by
      conv => lhs; arg 2; rw [← e]
      rw [List.idxOf_append, if_pos hm]
    have h2 := List.idxOf_lt_length_iff.2 hm
    rw [List.length_take] at h2
    omega
  · unfold tf
    have : L.getD (L.idxOf x) 0 = x := by
      rw [List.getD_eq_getElem?_getD, List.getElem?_eq_getElem h, Option.getD_some, List.getElem_idxOf]
    rw [this]

theorem ahd_iff : ∀ {r : List Int}, InB r → ∀ {b c : Int}, b ∈ a256 → c ∈ a256 → (ahd r b c = true ↔ (ls r).idxOf c < (ls r).idxOf b)
  | [], _, b, c, hb, hc => by
    show decide (c < b) = true ↔ _
    rw [ls, a256_idx hb, a256_idx hc, decide_eq_true_iff]
    have := mem_a256.1 hb
    have := mem_a256.1 hc
    omega
  | x :: r, h, b, c, hb, hc => by
    have hr : InB r := fun y hy => h y (by simp [hy])
    have ih := ahd_iff hr hb hc
    have hx : x ∈ ls r := (mem_ls hr).2 (h x (by simp))
    obtain ⟨A, B, e, hA, ht⟩ := split_at hx
    rw [ls, ht]
    unfold ahd
    by_cases hxb : x = b
    · subst hxb
      simp
    · rw [if_neg hxb, List.idxOf_cons, List.idxOf_cons]
      have h1 : (x == b) = false := by simp [hxb]
      rw [h1]
      by_cases hcx : c = x
      · subst hcx
        simp
      · have h2 : (x == c) = false := by simp [Ne.symm hcx]
        rw [h2]
        simp only [hcx, decide_false, Bool.false_or, cond_false]
        rw [ih]
        have ec := idx_mid (A := A) (B := B) hcx hA
        have eb := idx_mid (A := A) (B := B) (Ne.symm hxb) hA
        rw [← e] at ec eb
        have hne : (ls r).idxOf c ≠ (ls r).idxOf x := by
          intro hh
          have h5 := ls_at_idx hr hc
          rw [hh, ls_at_idx hr (h x (by simp))] at h5
          exact hcx h5.symm
        generalize (ls r).idxOf c = ic at *
        generalize (ls r).idxOf b = ib at *
        generalize (ls r).idxOf x = ix at *
        split at ec <;> split at eb <;> omega

theorem countP_idx : ∀ {L : List Int}, L.Nodup → ∀ k, k ≤ L.length → L.countP (fun c => decide (L.idxOf c < k)) = k := by
  intro L hn k hk
  have e : L.countP (fun c => decide (L.idxOf c < k)) = (L.take k).countP (fun c => decide (L.idxOf c < k)) + (L.drop k).countP (fun c => decide (L.idxOf c < k)) := by
    conv => lhs; arg 2; rw [← List.take_append_drop k L]
    rw [List.countP_append]
  rw [e, List.countP_eq_length.2, List.countP_eq_zero.2, List.length_take]
  · omega
  · intro c hc
    obtain ⟨i, hi, rfl⟩ := List.getElem_of_mem hc
    rw [List.getElem_drop, hn.idxOf_getElem]
    simp
  · intro c hc
    obtain ⟨i, hi, rfl⟩ := List.getElem_of_mem hc
    rw [List.getElem_take, hn.idxOf_getElem]
    rw [List.length_take] at hi
    simp
    omega

/-- The place of a byte is how many stand ahead of it. -/
theorem ls_count {r : List Int} (h : InB r) {b : Int} (hb : b ∈ a256) : a256.countP (fun c => ahd r b c) = (ls r).idxOf b := by
  rw [← (ls_perm h).countP_eq]
  have h1 := countP_idx (ls_nodup h) ((ls r).idxOf b) (Nat.le_of_lt (List.idxOf_lt_length_iff.2 ((mem_ls h).2 hb)))
  refine Eq.trans (List.countP_congr ?_) h1
  intro c hc
  rw [ahd_iff h hb ((mem_ls h).1 hc)]
  simp

theorem ahd_app {b c : Int} : ∀ {V U : List Int}, b ∉ V → ahd (V ++ U) b c = (decide (c ∈ V) || ahd U b c)
  | [], U, _ => by simp
  | x :: V, U, h => by
    have hx : x ≠ b := fun e => h (by simp [e])
    rw [List.cons_append, ahd, if_neg hx, ahd_app (fun hm => h (by simp [hm]))]
    by_cases h1 : c = x <;> simp [h1]

/-- .. by where the byte came last. -/
theorem ahd_seg {T : List Int} {q : Nat} {b c : Int} (hno : b ∉ T.drop q) (hq : q = 0 ∨ (q ≤ T.length ∧ T.getD (q - 1) 0 = b)) :
    ahd T.reverse b c = (decide (c ∈ T.drop q) || (decide (q = 0) && decide (c < b))) := by
  have e : T.reverse = (T.drop q).reverse ++ (T.take q).reverse := by
    rw [← List.reverse_append, List.take_append_drop]
  rw [e, ahd_app (by simpa using hno)]
  simp only [List.mem_reverse]
  congr 1
  rcases hq with rfl | ⟨hq, hb⟩
  · simp [ahd]
  · cases q with
    | zero => simp [ahd]
    | succ q =>
      have hb' : T[q] = b := by
        have h5 : q < T.length := by omega
        simpa [List.getD_eq_getElem?_getD, h5] using hb
      rw [List.take_succ_eq_append_getElem (by omega), List.reverse_append]
      simp [ahd, hb']

/-- What the program tells of a text. -/
def frs (t : List Int) : List Int := (List.range t.length).map (fun i => ((ls (t.take i).reverse).idxOf (t.getD i 0) : Int))

theorem frs_length (t : List Int) : (frs t).length = t.length := by simp [frs]

/-- The bytes whose places these are, so many of them, the last one first. -/
def rr (z : List Int) : Nat → List Int
  | 0 => []
  | k + 1 => (ls (rr z k)).getD (z.getD k 0).toNat 0 :: rr z k

theorem rr_length (z : List Int) : ∀ k, (rr z k).length = k
  | 0 => rfl
  | k + 1 => by rw [rr, List.length_cons, rr_length z k]

theorem rr_inB {z : List Int} (h : ∀ x ∈ z, 0 ≤ x ∧ x < 256) : ∀ k, k ≤ z.length → InB (rr z k)
  | 0, _ => fun x hx => by simp [rr] at hx
  | k + 1, hk => by
    have ih := rr_inB h k (by omega)
    intro x hx
    rw [rr] at hx
    rcases List.mem_cons.1 hx with rfl | hx
    · have h1 := h _ (List.getElem_mem (show k < z.length by omega))
      have e : z.getD k 0 = z[k] := by simp [List.getD_eq_getElem?_getD, show k < z.length by omega]
      exact ls_at_mem ih (by rw [e]; omega)
    · exact ih x hx

theorem take_rev_succ {t : List Int} {i : Nat} (h : i < t.length) : (t.take (i + 1)).reverse = t.getD i 0 :: (t.take i).reverse := by
  rw [List.take_succ_eq_append_getElem h, List.reverse_append]
  simp [List.getD_eq_getElem?_getD, h]

/-- Of a text's places it comes again. -/
theorem rr_frs {t : List Int} (h : InB t) : ∀ k, k ≤ t.length → rr (frs t) k = (t.take k).reverse
  | 0, _ => rfl
  | k + 1, hk => by
    have ih := rr_frs h k (by omega)
    have hi : k < t.length := by omega
    have hv : (frs t).getD k 0 = ((ls (t.take k).reverse).idxOf (t.getD k 0) : Int) := by
      simp [frs, List.getD_eq_getElem?_getD, hi]
    have hin : InB (t.take k).reverse := fun x hx => h x (List.mem_of_mem_take (by simpa using hx))
    have hm : t.getD k 0 ∈ a256 := by
      have : t.getD k 0 = t[k] := by simp [List.getD_eq_getElem?_getD, hi]
      rw [this]
      exact h _ (List.getElem_mem hi)
    rw [rr, ih, hv, Int.toNat_natCast, ls_at_idx hin hm, ← take_rev_succ hi]

theorem frs_range {t : List Int} (h : InB t) : ∀ x ∈ frs t, 0 ≤ x ∧ x < 256 := by
  intro x hx
  unfold frs at hx
  obtain ⟨i, hi, rfl⟩ := List.mem_map.1 hx
  have hi' : i < t.length := List.mem_range.1 hi
  have hin : InB (t.take i).reverse := fun x hx => h x (List.mem_of_mem_take (by simpa using hx))
  have hm : t.getD i 0 ∈ a256 := by
    have : t.getD i 0 = t[i] := by simp [List.getD_eq_getElem?_getD, hi']
    rw [this]
    exact h _ (List.getElem_mem hi')
  have := ls_idx_lt hin hm
  omega

/-- Who comes twice in a row, and nobody else, has the place 0. -/
theorem frs_zero {t : List Int} (h : InB t) {i : Nat} (hi : i + 1 < t.length) : ((frs t).getD (i + 1) 0 = 0) ↔ t.getD (i + 1) 0 = t.getD i 0 := by
  have hv : (frs t).getD (i + 1) 0 = ((ls (t.take (i + 1)).reverse).idxOf (t.getD (i + 1) 0) : Int) := by
    simp [frs, List.getD_eq_getElem?_getD, hi]
  have hin : InB (t.take i).reverse := fun x hx => h x (List.mem_of_mem_take (by simpa using hx))
  have hm : t.getD i 0 ∈ a256 := by
    have : t.getD i 0 = t[i] := by simp [List.getD_eq_getElem?_getD, show i < t.length by omega]
    rw [this]
    exact h _ (List.getElem_mem _)
  rw [hv, take_rev_succ (by omega), ls]
  unfold tf
  rw [ls_at_idx hin hm, List.idxOf_cons]
  constructor
  · intro h0
    cases hb : (t.getD i 0 == t.getD (i + 1) 0) with
    | true => exact (beq_iff_eq.1 hb).symm
    | false =>
      rw [hb] at h0
      simp only [cond_false] at h0
      omega
  · intro h0
    rw [h0]
    simp

end Go.Proofs.Ytkccdhidmihekaa
