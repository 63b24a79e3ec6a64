/-
  Numbers of which so few are wrong are told. Nothing here speaks of the program.
-/
import Derived.Test.YtjdipgkdaloclaaDoorFx
namespace Go.Proofs.YtjdipgkdaloclaaDoor
set_option linter.unusedVariables false

theorem told_one {z : List Int} {k : Nat} {X X2 : Int} {r r2 : List Int} (h : Told z k X r) (h2 : Told z k X2 r2) : X = X2 ∧ r = r2 := by
  rcases h with ⟨rfl, s, hs, hn, hf, rfl⟩ | ⟨rfl, rfl, hf⟩
  · rcases h2 with ⟨rfl, s2, hs2, hn2, hf2, rfl⟩ | ⟨rfl, rfl, hf2⟩
    · rcases Nat.lt_trichotomy s s2 with h | h | h
      · exact absurd hn (hf2 s h)
      · rw [h]; exact ⟨rfl, rfl⟩
      · exact absurd hn2 (hf s2 h)
    · exact absurd hn (hf2 s hs)
  · rcases h2 with ⟨rfl, s2, hs2, hn2, hf2, rfl⟩ | ⟨rfl, rfl, hf2⟩
    · exact absurd hn2 (hf s2 hs2)
    · exact ⟨rfl, rfl⟩

theorem ex_set {m : Nat} : ∀ (e g : Nat), g < 512 → pop g = m + e → ∃ s, s ≤ g ∧ pop s = m ∧ ∀ i ∈ pl s, i ∈ pl g
  | 0, g, hg, h => ⟨g, Nat.le_refl _, h, fun i hi => hi⟩
  | e + 1, g, hg, h => by
    have h0 : g ≠ 0 := fun e0 => by
      rw [e0] at h
      have : pop 0 = 0 := by decide
      omega
    obtain ⟨h1, h2⟩ := pl_step hg h0
    have hp : pop (g &&& (g - 1)) = m + e := by
      rw [← pl_pop (by omega)]
      have := congrArg List.length h1
      rw [pl_pop hg, List.length_cons] at this
      omega
    obtain ⟨s, s1, s2, s3⟩ := ex_set e (g &&& (g - 1)) (by omega) hp
    exact ⟨s, by omega, s2, fun i hi => by rw [h1]; exact List.mem_cons_of_mem _ (s3 i hi)⟩

theorem ex_bits (f : Nat → Bool) : ∀ n, ∃ g, g < 2 ^ n ∧ ∀ i, i < n → g.testBit i = f i
  | 0 => ⟨0, by decide, fun i hi => absurd hi (Nat.not_lt_zero i)⟩
  | n + 1 => by
    obtain ⟨g, hg, h⟩ := ex_bits f n
    have hb : g.testBit n = false := Nat.testBit_lt_two_pow hg
    refine ⟨g ||| (if f n then 2 ^ n else 0), ?_, fun i hi => ?_⟩
    · refine Nat.or_lt_two_pow (Nat.lt_of_lt_of_le hg (Nat.pow_le_pow_right (by omega) (by omega))) ?_
      split
      · exact Nat.pow_lt_pow_right (by omega) (by omega)
      · exact Nat.two_pow_pos _
    · rw [Nat.testBit_or]
      rcases Nat.lt_succ_iff_lt_or_eq.1 hi with h' | rfl
      · have : (if f n then 2 ^ n else 0).testBit i = false := by
          split
          · rw [Nat.testBit_two_pow]; simp; omega
          · exact Nat.zero_testBit _
        rw [this, Bool.or_false]
        exact h i h'
      · rw [hb, Bool.false_or]
        cases hf : f i
        · rw [if_neg (by decide)]; exact Nat.zero_testBit _
        · rw [if_pos rfl]; exact Nat.testBit_two_pow_self

theorem dfc_tri (a b c : List Int) : ∀ n, dfc a c n ≤ dfc a b n + dfc c b n
  | 0 => Nat.zero_le _
  | n + 1 => by
    have ih := dfc_tri a b c n
    rw [dfc_next, dfc_next, dfc_next]
    have : (if a.getD n 0 != c.getD n 0 then 1 else 0) ≤ (if a.getD n 0 != b.getD n 0 then 1 else 0) + (if c.getD n 0 != b.getD n 0 then 1 else 0) := by
      by_cases h : a.getD n 0 = c.getD n 0
      · rw [if_neg (by rw [bne_eq_false_iff_eq.2 h]; decide)]; exact Nat.zero_le _
      · by_cases h2 : a.getD n 0 = b.getD n 0
        · have h3 : c.getD n 0 ≠ b.getD n 0 := fun e => h (h2.trans e.symm)
          rw [if_pos (by simpa using h), if_pos (show (c.getD n 0 != b.getD n 0) = true by simpa using h3)]
          omega
        · rw [if_pos (by simpa using h), if_pos (show (a.getD n 0 != b.getD n 0) = true by simpa using h2)]
          omega
    omega

theorem zl_inj {a b : List Nat} (h : zl a = zl b) : a = b := by
  have := congrArg (List.map Int.toNat) h
  simpa [zl, Function.comp_def] using this

/-- The numbers of a set at whose places nothing is wrong. -/
theorem sd_right {n m s : Nat} {U : Nat → Nat} {d : List Nat} (hn : n ≤ 9) (hU : ∀ i, i < n → U i < 16) (hd : ∀ c ∈ d, c < 16) (hm : d.length = m) (h1 : 1 ≤ m) (hs : s < 2 ^ n) (hp : pop s = m) (h : ∀ i ∈ pl s, U i = ep d i) : sd (zl (nl U n)) m s = d := by
  have zlen : (zl (nl U n)).length = n := by simp
  have hz : ∀ x ∈ zl (nl U n), 0 ≤ x ∧ x ≤ 15 := fun x hx => by
    obtain ⟨c, hc, rfl⟩ := List.mem_map.1 hx
    obtain ⟨i, hi, rfl⟩ := List.mem_map.1 hc
    have := hU i (List.mem_range.1 hi)
    omega
  have T := set_thr (k := m) (s := s) hz (by rw [zlen]; exact hn) h1 (by rw [zlen]; exact hs) hp ⟨none, 0, zl (nl U n)⟩ ⟨none, 0, zl (pl s)⟩ rfl rfl
  have p2 : 2 ^ n ≤ 2 ^ 9 := Nat.pow_le_pow_right (by omega) hn
  have hl : (pl s).length = m := by rw [pl_pop (by omega), hp]
  have := nl_congr (same (k := m) (P := fun i => (pl s).getD i 0 + 1) (f := nd (fun p => ((zl (nl U n)).getD p 0).toNat) (fun i => (pl s).getD i 0) m) (g := fun i => d.getD i 0) (fun i _ => nd_lt T.plc i) (fun i _ => getD_lt hd i) (fun i hi => by have := T.plc.low i hi; omega) (fun i j hi hj e => T.plc.one i j hi hj (by omega)) (fun i hi => by
    have hmem : (pl s).getD i 0 ∈ pl s := by
      rw [List.getD_eq_getElem?_getD, List.getElem?_eq_getElem (by omega)]
      exact List.getElem_mem _
    have hlt := T.len i hi
    simp only [zlen] at hlt
    have e1 := nd_val T.plc hi
    rw [zl_at, nl_at U hlt, h _ hmem] at e1
    rw [show nl (fun i => d.getD i 0) m = d by rw [← hm]; exact nl_self d]
    exact e1))
  unfold sd
  rw [this, ← hm]
  exact nl_self d

theorem wrong_near {n m : Nat} {U : Nat → Nat} {d : List Nat} {X : Int} {r : List Int} (hn : n ≤ 9) (hU : ∀ i, i < n → U i < 16) (hd : ∀ c ∈ d, c < 16) (hm : d.length = m) (h1 : 1 ≤ m) (hc : 2 * dfc (zl (nl (ep d) n)) (zl (nl U n)) n + m ≤ n)
    (h : Told (zl (nl U n)) m X r) : X = 0 ∧ r = zl d := by
  have zlen : (zl (nl U n)).length = n := by simp
  have hz : ∀ x ∈ zl (nl U n), 0 ≤ x ∧ x ≤ 15 := fun x hx => by
    obtain ⟨c, hc, rfl⟩ := List.mem_map.1 hx
    obtain ⟨i, hi, rfl⟩ := List.mem_map.1 hc
    have := hU i (List.mem_range.1 hi)
    omega
  have p2 : 2 ^ n ≤ 2 ^ 9 := Nat.pow_le_pow_right (by omega) hn
  have ex : ∃ s, s < 2 ^ n ∧ near (zl (nl U n)) m s := by
    obtain ⟨g, hg, hgb⟩ := ex_bits (fun i => !((zl (nl (ep d) n)).getD i 0 != (zl (nl U n)).getD i 0)) n
    have hpg : pop g + dfc (zl (nl (ep d) n)) (zl (nl U n)) n = n := by
      rw [← pl_pop (by omega), ← pl_below hn hg, ← List.countP_eq_length_filter]
      have e : (List.range n).countP (fun i => g.testBit i) = (List.range n).countP (fun i => !((zl (nl (ep d) n)).getD i 0 != (zl (nl U n)).getD i 0)) := List.countP_congr (fun i hi => by rw [hgb i (List.mem_range.1 hi)])
      rw [e, Nat.add_comm]
      have := cnt_not (fun i => (zl (nl (ep d) n)).getD i 0 != (zl (nl U n)).getD i 0) (List.range n)
      rw [List.length_range] at this
      exact this
    obtain ⟨s, s1, s2, s3⟩ := ex_set (m := m) (pop g - m) g (by omega) (by omega)
    have hsn : s < 2 ^ n := by omega
    have e : sd (zl (nl U n)) m s = d := sd_right hn hU hd hm h1 hsn s2 (fun i hi => by
      have hi2 := s3 i hi
      rw [← pl_below hn hg] at hi2
      obtain ⟨q1, q2⟩ := List.mem_filter.1 hi2
      have q1 := List.mem_range.1 q1
      rw [hgb i q1, zl_at, zl_at, nl_at _ q1, nl_at _ q1] at q2
      have : ((ep d i : Nat) : Int) = ((U i : Nat) : Int) := by simpa using q2
      exact (Int.ofNat.inj this).symm)
    refine ⟨s, hsn, s2, ?_⟩
    unfold sc
    rw [e, zlen]
    exact hc
  rcases h with ⟨rfl, s, hs, hnr, hf, rfl⟩ | ⟨rfl, rfl, hf⟩
  · refine ⟨rfl, ?_⟩
    rw [zlen] at hs
    obtain ⟨hp, hcs⟩ := hnr
    have hsl := sd_lt (k := m) (s := s) hz (by rw [zlen]; exact hn) h1 (by rw [zlen]; exact hs) hp
    unfold sc at hcs
    rw [zlen] at hcs
    have tri := dfc_tri (zl (nl (ep d) n)) (zl (nl U n)) (zl (nl (ep (sd (zl (nl U n)) m s)) n)) n
    by_cases he : d = sd (zl (nl U n)) m s
    · rw [← he]
    · have hl2 : d.length = (sd (zl (nl U n)) m s).length := by rw [hm]; exact (nl_len _ _).symm
      have := far_of hd hsl hl2 he hn
      omega
  · obtain ⟨s, hs, hnr⟩ := ex
    exact absurd hnr (hf s (by rw [zlen]; exact hs))

theorem wrong_far {n m : Nat} {U : Nat → Nat} {d : List Nat} {X : Int} {r : List Int} (hm : d.length = m) (hc : ¬ 2 * dfc (zl (nl (ep d) n)) (zl (nl U n)) n + m ≤ n) (h : Told (zl (nl U n)) m X r) : X = 5 ∨ (X = 0 ∧ r.length = m ∧ (r == zl d) = false) := by
  have zlen : (zl (nl U n)).length = n := by simp
  rcases h with ⟨rfl, s, hs, hnr, hf, rfl⟩ | ⟨rfl, rfl, hf⟩
  · refine .inr ⟨rfl, by rw [zl_len]; exact nl_len _ _, beq_eq_false_iff_ne.2 (fun e => hc ?_)⟩
    have e2 := zl_inj e
    obtain ⟨hp, hcs⟩ := hnr
    unfold sc at hcs
    rw [zlen, e2] at hcs
    exact hcs
  · exact .inl rfl

end Go.Proofs.YtjdipgkdaloclaaDoor
