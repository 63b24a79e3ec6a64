/-
  What is read is written as the bits were; and what was written is read, of a code of which no word begins another one and none is bare. No walk.
-/
import Derived.Test.YtfelbgilhhmbnaaRead3
namespace Go.Proofs.Ytfelbgilhhmbnaa
open Go.RowKit

theorem written_append (g : List Wd) (z z' : List Int) : written g (z ++ z') = written g z ++ written g z' := by
  unfold written; rw [List.flatMap_append]

theorem rd_written (g : List Wd) : ∀ (f : Nat) (r : List Bool) (z z' : List Int), rd g f r z = some z' → z.length ≤ 64 → (∀ s ∈ z, 0 ≤ s ∧ s < g.length) →
    z'.length ≤ 64 ∧ (∀ s ∈ z', 0 ≤ s ∧ s < g.length) ∧ written g z' = written g z ++ r
  | 0, r, z, z', h, _, _ => by simp [rd] at h
  | f + 1, r, z, z', h, hl, hs => by
    by_cases hr : r.length = 0
    · rw [rd_end g f r z hr] at h
      cases h
      have : r = [] := List.eq_nil_of_length_eq_zero hr
      subst this
      exact ⟨hl, hs, by simp⟩
    · by_cases hn : firstOf (pre r) g < 0 ∨ z.length = 64
      · rw [rd_none g f r z hr hn] at h
        cases h
      · have hrange := firstOf_range (pre r) g
        obtain ⟨q, hq⟩ := Int.eq_ofNat_of_zero_le (by omega : 0 ≤ firstOf (pre r) g)
        have hqg : q < g.length := by omega
        rw [rd_step g f q r z hr hq hqg (by omega)] at h
        obtain ⟨h1, h2, h3⟩ := rd_written g f _ _ _ h (by simp; omega) (fun s hsm => by
          rcases List.mem_append.1 hsm with h' | h'
          · exact hs s h'
          · simp at h'; omega)
        refine ⟨h1, h2, ?_⟩
        rw [h3, written_append]
        have hp := List.isPrefixOf_iff_prefix.1 (firstOf_spec (pre r) g q hqg hq)
        have ht := List.prefix_iff_eq_take.1 hp
        have hw : written g [(q : Int)] = g[q].l := by simp [written, List.getD_eq_getElem?_getD, hqg]
        rw [hw, List.append_assoc]
        congr 1
        conv => lhs; lhs; rw [ht]
        exact List.take_append_drop _ _

theorem rd_back (g : List Wd) (z0 : List Int) (hf : free g = true) (hb : bareB g = false) (h64 : z0.length ≤ 64) (hs : ∀ s ∈ z0, 0 ≤ s ∧ s < g.length) :
    ∀ (f k : Nat), k ≤ z0.length → (written g (z0.drop k)).length < f → rd g f (written g (z0.drop k)) (z0.take k) = some z0
  | 0, k, _, h => by omega
  | f + 1, k, hk, h => by
    rcases Nat.lt_or_ge k z0.length with hlt | hge
    · have hd : z0.drop k = z0[k] :: z0.drop (k + 1) := List.drop_eq_getElem_cons hlt
      have hsk := hs z0[k] (List.getElem_mem hlt)
      obtain ⟨q, hq⟩ := Int.eq_ofNat_of_zero_le hsk.1
      have hqg : q < g.length := by omega
      have hw : written g (z0.drop k) = g[q].l ++ written g (z0.drop (k + 1)) := by
        rw [hd, hq]
        simp [written, List.getD_eq_getElem?_getD, hqg]
      have h0 : 0 < g[q].l.length := by
        have := List.any_eq_false.1 hb g[q] (List.getElem_mem hqg)
        simp at this
        exact List.length_pos_iff.2 this
      rw [hw] at h ⊢
      rw [List.length_append] at h
      have hpq : pre (g[q].l ++ written g (z0.drop (k + 1))) g[q] = true := List.isPrefixOf_iff_prefix.2 (List.prefix_append _ _)
      have hfo : firstOf (pre (g[q].l ++ written g (z0.drop (k + 1)))) g = q := firstOf_hit _ g q hqg hpq (fun j hj hjq => by
        cases hc : pre (g[q].l ++ written g (z0.drop (k + 1))) g[j] with
        | false => rfl
        | true =>
          have hcl := free_at hf j q hj hqg hjq
          unfold clash at hcl
          rw [Bool.or_eq_false_iff] at hcl
          rcases List.prefix_or_prefix_of_prefix (List.isPrefixOf_iff_prefix.1 hc) (List.isPrefixOf_iff_prefix.1 hpq) with h' | h'
          · rw [List.isPrefixOf_iff_prefix.2 h'] at hcl; exact absurd hcl.1 (by decide)
          · rw [List.isPrefixOf_iff_prefix.2 h'] at hcl; exact absurd hcl.2 (by decide))
      rw [rd_step g f q _ _ (by rw [List.length_append]; omega) hfo hqg (by simp; omega)]
      rw [List.drop_left]
      have ht : z0.take k ++ [(q : Int)] = z0.take (k + 1) := by
        rw [List.take_succ_eq_append_getElem hlt, hq]
      rw [ht]
      exact rd_back g z0 hf hb h64 hs f (k + 1) (by omega) (by omega)
    · have hk' : k = z0.length := by omega
      subst hk'
      rw [List.drop_length, List.take_length]
      exact rd_end g f _ _ rfl

end Go.Proofs.Ytfelbgilhhmbnaa
