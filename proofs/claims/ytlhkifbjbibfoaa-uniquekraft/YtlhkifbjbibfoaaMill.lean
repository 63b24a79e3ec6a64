/-
  McMillan: of a code of which no two texts are alike the lengths take no more room than there is. Nothing here speaks of the program.
-/
import Derived.Test.YtlhkifbjbibfoaaWays
namespace Go.Proofs.Ytlhkifbjbibfoaa
open Go.RowKit

theorem tails_nodup {b : Bool} : ∀ {g : List (List Bool)}, g.Nodup → (tails b g).Nodup
  | [], _ => List.Pairwise.nil
  | w :: g, h => by
    have h' := List.nodup_cons.1 h
    have ih := tails_nodup (b := b) h'.2
    cases w with
    | nil => simpa [tails] using ih
    | cons c t =>
      by_cases hc : c = b
      · subst hc
        have : tails c ((c :: t) :: g) = t :: tails c g := by simp [tails]
        rw [this]
        exact List.nodup_cons.2 ⟨fun hm => h'.1 (tails_mem hm), ih⟩
      · have : tails b ((c :: t) :: g) = tails b g := by simp [tails, hc]
        rw [this]
        exact ih

theorem room_cons (L : Nat) (w : List Bool) (g : List (List Bool)) : room L (w :: g) = 2 ^ (L - w.length) + room L g := by simp [room]
theorem room_append (L : Nat) (g h : List (List Bool)) : room L (g ++ h) = room L g + room L h := by simp [room]

theorem room_nodup : ∀ (L : Nat) (g : List (List Bool)), (∀ w ∈ g, w.length ≤ L + 1) → g.Nodup → ([] ∈ g → room (L + 1) g ≤ 2 ^ (L + 1) + (room L (tails false g) + room L (tails true g))) ∧ ([] ∉ g → room (L + 1) g ≤ room L (tails false g) + room L (tails true g))
  | L, [], _, _ => ⟨(fun h => absurd h (by simp)), (fun _ => by simp [room])⟩
  | L, w :: g, h8, hd => by
    have hd' := List.nodup_cons.1 hd
    have ih := room_nodup L g (fun w hw => h8 w (List.mem_cons_of_mem _ hw)) hd'.2
    cases w with
    | nil =>
      have e1 : tails false ([] :: g) = tails false g := by simp [tails]
      have e2 : tails true ([] :: g) = tails true g := by simp [tails]
      rw [e1, e2, room_cons]
      refine ⟨fun _ => ?_, fun h => absurd (List.mem_cons_self ..) h⟩
      have := ih.2 hd'.1
      simp only [List.length_nil, Nat.sub_zero]
      omega
    | cons c t =>
      have hsum : room L (tails false ((c :: t) :: g)) + room L (tails true ((c :: t) :: g)) = 2 ^ (L - t.length) + (room L (tails false g) + room L (tails true g)) := by
        cases c
        · have e1 : tails false ((false :: t) :: g) = t :: tails false g := by simp [tails]
          have e2 : tails true ((false :: t) :: g) = tails true g := by simp [tails]
          rw [e1, e2, room_cons]; omega
        · have e1 : tails false ((true :: t) :: g) = tails false g := by simp [tails]
          have e2 : tails true ((true :: t) :: g) = t :: tails true g := by simp [tails]
          rw [e1, e2, room_cons]; omega
      rw [hsum, room_cons]
      have e : L + 1 - (c :: t).length = L - t.length := by simp
      rw [e]
      refine ⟨fun h => ?_, fun h => ?_⟩
      · have := ih.1 (by simpa using h)
        omega
      · have := ih.2 (fun h' => h (List.mem_cons_of_mem _ h'))
        omega

theorem room_zero {g : List (List Bool)} (h : ∀ w ∈ g, w.length ≤ 0) (hd : g.Nodup) : room 0 g ≤ 1 := by
  match g, h, hd with
  | [], _, _ => simp [room]
  | [w], _, _ => simp [room]
  | w :: v :: g, h, hd =>
    have h1 := List.eq_nil_of_length_eq_zero (Nat.le_zero.1 (h w (by simp)))
    have h2 := List.eq_nil_of_length_eq_zero (Nat.le_zero.1 (h v (by simp)))
    subst h1; subst h2
    simp at hd

/-- Words that are not the same, of at most L bits. -/
theorem room_le : ∀ (L : Nat) (g : List (List Bool)), (∀ w ∈ g, w.length ≤ L) → g.Nodup → room L g ≤ (L + 1) * 2 ^ L
  | 0, g, h, hd => by simpa using room_zero h hd
  | L + 1, g, h, hd => by
    have hl : ∀ b, ∀ w ∈ tails b g, w.length ≤ L := fun b w hw => by
      have := h _ (tails_mem hw)
      simpa using this
    have h1 := room_le L (tails false g) (hl false) (tails_nodup hd)
    have h2 := room_le L (tails true g) (hl true) (tails_nodup hd)
    have h3 : room (L + 1) g ≤ 2 ^ (L + 1) + (room L (tails false g) + room L (tails true g)) := by
      have hs := room_nodup L g h hd
      by_cases hn : [] ∈ g
      · exact hs.1 hn
      · exact Nat.le_trans (hs.2 hn) (Nat.le_add_left _ _)
    have e : (L + 1 + 1) * 2 ^ (L + 1) = 2 ^ (L + 1) + ((L + 1) * 2 ^ L + (L + 1) * 2 ^ L) := by
      rw [Nat.pow_succ]
      rw [Nat.add_mul (L + 1) 1]
      have : (L + 1) * (2 ^ L * 2) = (L + 1) * 2 ^ L + (L + 1) * 2 ^ L := by rw [← Nat.mul_assoc, Nat.mul_two]
      omega
    rw [e]
    omega

/-- The bits of all texts of n symbols. -/
def pw (ws : List (List Bool)) : Nat → List (List Bool)
  | 0 => [[]]
  | n + 1 => ws.flatMap (fun w => (pw ws n).map (w ++ ·))

theorem pw_len {ws : List (List Bool)} {M : Nat} (h : ∀ w ∈ ws, w.length ≤ M) : ∀ (n : Nat), ∀ u ∈ pw ws n, u.length ≤ M * n
  | 0, u, hu => by simp [pw] at hu; simp [hu]
  | n + 1, u, hu => by
    obtain ⟨w, hw, hu⟩ := List.mem_flatMap.1 hu
    obtain ⟨v, hv, rfl⟩ := List.mem_map.1 hu
    have h1 := h w hw
    have h2 := pw_len h n v hv
    rw [List.length_append, Nat.mul_succ]
    omega

theorem room_map {M L : Nat} {w : List Bool} (hw : w.length ≤ M) : ∀ {g : List (List Bool)}, (∀ u ∈ g, u.length ≤ L) → room (L + M) (g.map (w ++ ·)) = 2 ^ (M - w.length) * room L g
  | [], _ => by simp [room]
  | u :: g, h => by
    have hu := h u (List.mem_cons_self ..)
    rw [List.map_cons, room_cons, room_cons, room_map hw (fun v hv => h v (List.mem_cons_of_mem _ hv)), Nat.mul_add, ← Nat.pow_add, List.length_append]
    congr 2
    omega

theorem room_flat {M L : Nat} {g : List (List Bool)} (hg : ∀ u ∈ g, u.length ≤ L) : ∀ {ws : List (List Bool)}, (∀ w ∈ ws, w.length ≤ M) → room (L + M) (ws.flatMap (fun w => g.map (w ++ ·))) = room M ws * room L g
  | [], _ => by simp [room]
  | w :: ws, h => by
    rw [List.flatMap_cons, room_append, room_cons, room_map (h w (List.mem_cons_self ..)) hg, room_flat hg (fun v hv => h v (List.mem_cons_of_mem _ hv)), Nat.add_mul]

theorem room_pw {ws : List (List Bool)} {M : Nat} (h : ∀ w ∈ ws, w.length ≤ M) : ∀ n, room (M * n) (pw ws n) = room M ws ^ n
  | 0 => by simp [pw, room]
  | n + 1 => by
    show room (M * n + M) (ws.flatMap (fun w => (pw ws n).map (w ++ ·))) = _
    rw [room_flat (pw_len h n) h, room_pw h n, Nat.pow_succ, Nat.mul_comm]

theorem pw_text {ws : List (List Bool)} : ∀ (n : Nat), ∀ u ∈ pw ws n, ∃ z, Valid ws.length z ∧ wrt ws z = u
  | 0, u, hu => by
    simp [pw] at hu
    exact ⟨[], valid_nil _, hu.symm⟩
  | n + 1, u, hu => by
    obtain ⟨w, hw, hu⟩ := List.mem_flatMap.1 hu
    obtain ⟨v, hv, rfl⟩ := List.mem_map.1 hu
    obtain ⟨z, hz, rfl⟩ := pw_text n v hv
    obtain ⟨i, hi, rfl⟩ := List.mem_iff_getElem.1 hw
    refine ⟨(i : Int) :: z, valid_cons.2 ⟨by omega, hz⟩, ?_⟩
    rw [wrt_cons, getD_nat ws i hi]

theorem pw_nodup {ws : List (List Bool)} (hu : Uniq ws) : ∀ n, (pw ws n).Nodup
  | 0 => by simp [pw]
  | n + 1 => by
    show (ws.flatMap (fun w => (pw ws n).map (w ++ ·))).Nodup
    refine List.pairwise_flatMap.2 ⟨fun w _ => ?_, ?_⟩
    · exact List.Pairwise.map _ (fun a b hab e => hab (List.append_cancel_left e)) (pw_nodup hu n)
    · refine List.pairwise_iff_getElem.2 (fun i j hi hj hij x hx y hy e => ?_)
      obtain ⟨u, hu1, rfl⟩ := List.mem_map.1 hx
      obtain ⟨v, hv1, rfl⟩ := List.mem_map.1 hy
      obtain ⟨a, ha, rfl⟩ := pw_text n u hu1
      obtain ⟨b, hb, rfl⟩ := pw_text n v hv1
      have := hu ((i : Int) :: a) ((j : Int) :: b) (valid_cons.2 ⟨by omega, ha⟩) (valid_cons.2 ⟨by omega, hb⟩) (by rw [wrt_cons, wrt_cons, getD_nat ws i hi, getD_nat ws j hj]; exact e)
      injection this with h1 _
      omega

theorem mill_big : (8 * 3000 + 1) * 2 ^ (8 * 3000) < 257 ^ 3000 := by decide +kernel

theorem mill_at {ws : List (List Bool)} (h8 : ∀ w ∈ ws, w.length ≤ 8) (hu : Uniq ws) (n : Nat) (hn : (8 * n + 1) * 2 ^ (8 * n) < 257 ^ n) : room 8 ws ≤ 256 := by
  rcases Nat.lt_or_ge 256 (room 8 ws) with h | h
  · exfalso
    have h1 := room_le (8 * n) (pw ws n) (pw_len h8 n) (pw_nodup hu n)
    rw [room_pw h8 n] at h1
    have h2 : 257 ^ n ≤ room 8 ws ^ n := Nat.pow_le_pow_left h n
    exact absurd hn (Nat.not_lt.2 (Nat.le_trans h2 h1))
  · exact h

/-- McMillan. -/
theorem mcmillan {ws : List (List Bool)} (h8 : ∀ w ∈ ws, w.length ≤ 8) (hu : Uniq ws) : room 8 ws ≤ 256 := mill_at h8 hu 3000 mill_big

end Go.Proofs.Ytlhkifbjbibfoaa
