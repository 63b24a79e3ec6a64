/-
  state.Put, state.Take; quipuref.PartsCheck, quipukeep.parted.
-/
import Derived.Test.YtchnlbanhkigjaaPt
namespace Go.Proofs.Ytchnlbanhkigjaa
open Go.RowKit
set_option linter.unusedVariables false

/-- Parts that may be, as they came. -/
structure Gd (w : World) (x : Nm) (b o : Nat) (p : List Nat) : Prop where
  v : x.v = .slice (some ⟨b, o, none⟩) p.length x.c
  few : p.length ≤ 8
  cap : p.length ≤ x.c
  capm : x.c ≤ maxLen
  one : 1 ≤ p.sum
  most : p.sum ≤ 16
  sum : x.z.sum = (p.sum : Nat)
  pa : Pa w b o p
  len : x.z.length = p.length
  at_ : ∀ i, x.z.getD i 0 = (pt p i : Nat)

theorem good_parts {w : World} {x : Nm} (hx : Nums w x) (h : per x.z = 0) : ∃ b o, Gd w x b o (nt x.z) := by
  obtain ⟨h8, hp⟩ := per_ok h
  obtain ⟨h1, h2, h0, b, o, h3, h4⟩ := hx
  have hs := nt_sum x.z hp.1
  have hl := nt_length x.z
  have hat := nt_at x.z hp.1
  have hs1 := hp.2.1
  have hs2 := hp.2.2
  have hpos : 0 < x.z.length := by
    rcases Nat.eq_zero_or_pos x.z.length with h' | h'
    · rw [List.eq_nil_of_length_eq_zero h'] at hs1
      exact absurd hs1 (by decide)
    · exact h'
  refine ⟨b, o, ?_, by omega, by omega, by omega, by omega, by omega, hs, ?_, hl.symm, hat⟩
  · rw [hl, ← h3 hpos]
  · intro i hi
    rw [← hat i]
    exact h4 i (by omega)
theorem Gd.ext {w w' : World} {x : Nm} {b o : Nat} {p : List Nat} (h : Gd w x b o p) (e : Ext w w') : Gd w' x b o p :=
  ⟨h.v, h.few, h.cap, h.capm, h.one, h.most, h.sum, h.pa.ext e, h.len, h.at_⟩

theorem pxe_ok {z : List Int} {x : Int} (h : pxe z x = 0) : per z = 0 ∧ 0 ≤ x ∧ x ≤ 1099511627776 := by
  unfold pxe at h
  split at h
  · rename_i h1
    split at h
    · rename_i h2
      exact ⟨h1, h2⟩
    · exact absurd h (by decide)
  · rename_i h1
    exact absurd h h1
theorem pxe_good {z : List Int} {x : Int} (h : per z = 0) (h0 : 0 ≤ x) (h1 : x ≤ 1099511627776) : pxe z x = 0 := by
  unfold pxe
  rw [if_pos h, if_pos ⟨h0, h1⟩]
theorem pxv_good {z : List Int} {x : Int} (h : pxe z x = 0) : pxv z x = z.sum := if_pos h
theorem pxv_bad {z : List Int} {x : Int} (h : pxe z x ≠ 0) : pxv z x = 0 := if_neg h

/-- What Put tells: the error, and the number. -/
def pte (z : List Int) (x s : Int) : Int := if pxe z x = 0 then pe (nt z) x.toNat s else pxe z x
def ptv (z : List Int) (x s : Int) : Nat := if pxe z x = 0 then pv (nt z) x.toNat s else 0
theorem pte_good {z : List Int} {x s : Int} (h : pxe z x = 0) : pte z x s = pe (nt z) x.toNat s := if_pos h
theorem ptv_good {z : List Int} {x s : Int} (h : pxe z x = 0) : ptv z x s = pv (nt z) x.toNat s := if_pos h
theorem pte_bad {z : List Int} {x s : Int} (h : pxe z x ≠ 0) : pte z x s = pxe z x := if_neg h
theorem ptv_bad {z : List Int} {x s : Int} (h : pxe z x ≠ 0) : ptv z x s = 0 := if_neg h

theorem sput_any (p : Nm) (x s : Int) (w : World) (hp : Nums w p) : Calls Try.prog 9 #[p.v, .int .i64 x, .int .i64 s] w fun e w' => e = .returned (.tuple #[.int .i64 (ptv p.z x s : Nat), .int .i64 (pte p.z x s)]) ∧ Qt w w' := by
  have c1 := checkBoth_any p x w hp
  by_cases h : pxe p.z x = 0
  · obtain ⟨h1, h2, h3⟩ := pxe_ok h
    obtain ⟨b, o, g⟩ := good_parts hp h1
    rw [pte_good h, ptv_good h]
    rw [h, pxv_good h, g.sum] at c1
    obtain ⟨y, rfl⟩ : ∃ y : Nat, x = y := ⟨x.toNat, by omega⟩
    rw [Int.toNat_natCast]
    have c2 := put_any b o (nt p.z).length p.c (nt p.z) y s w rfl g.few g.cap g.capm g.most (by omega) g.pa
    rw [← g.v] at c2
    generalize pv (nt p.z) y s = V at *
    generalize pe (nt p.z) y s = E at *
    have hT := g.most
    generalize (nt p.z).sum = T at *
    have hv : ∃ a n c, p.v = .slice a n c := ⟨_, _, _, rfl⟩
    obtain ⟨a, n, c, hv⟩ := hv
    rw [hv] at c1 c2 ⊢
    clear h h1 g hp hv
    go_enter Try.func9, Try.ntmps9
    go_wp2_with fail
    refine c1.mono ?_
    rintro e w' ⟨rfl, rfl⟩
    clear c1
    go_wp2_with fail
    refine c2.mono ?_
    rintro e w2 ⟨rfl, hq⟩
    clear c2
    have Q : Hid (Qt w' w2) := hq
    clear hq
    go_wp2
    go_ret2
    exact ⟨rfl, Q.out⟩
  · rw [pte_bad h, ptv_bad h]
    rw [pxv_bad h] at c1
    have hE : (pxe p.z x != 0) = true := by simpa using h
    have hv : ∃ a n c, p.v = .slice a n c := ⟨_, _, _, rfl⟩
    obtain ⟨a, n, c, hv⟩ := hv
    rw [hv] at c1 ⊢
    generalize pxe p.z x = E at *
    clear h hp hv
    go_enter Try.func9, Try.ntmps9
    go_wp2_with fail
    refine c1.mono ?_
    rintro e w' ⟨rfl, rfl⟩
    clear c1
    go_wp2
    go_ret2
    exact ⟨rfl, Qt.refl _⟩

/-- What Take tells: the number and the symbol. -/
def tkv (z : List Int) (x : Int) : Nat := if pxe z x = 0 then tx (nt z) x.toNat else 0
def tks (z : List Int) (x : Int) : Nat := if pxe z x = 0 then ts (nt z) x.toNat else 0

theorem stake_any (p : Nm) (x : Int) (w : World) (hp : Nums w p) : Calls Try.prog 12 #[p.v, .int .i64 x] w fun e w' => e = .returned (.tuple #[.int .i64 (tkv p.z x : Nat), .int .i64 (tks p.z x : Nat), .int .i64 (pxe p.z x)]) ∧ Qt w w' := by
  have c1 := checkBoth_any p x w hp
  by_cases h : pxe p.z x = 0
  · obtain ⟨h1, h2, h3⟩ := pxe_ok h
    obtain ⟨b, o, g⟩ := good_parts hp h1
    have e1 : tkv p.z x = tx (nt p.z) x.toNat := if_pos h
    have e2 : tks p.z x = ts (nt p.z) x.toNat := if_pos h
    rw [e1, e2, h]
    rw [h, pxv_good h, g.sum] at c1
    obtain ⟨y, rfl⟩ : ∃ y : Nat, x = y := ⟨x.toNat, by omega⟩
    rw [Int.toNat_natCast]
    have c2 := take_any b o (nt p.z).length p.c (nt p.z) y w rfl g.few g.one g.most (by omega) g.pa
    rw [← g.v] at c2
    generalize tx (nt p.z) y = V at *
    generalize ts (nt p.z) y = E at *
    have hT := g.most
    generalize (nt p.z).sum = T at *
    have hv : ∃ a n c, p.v = .slice a n c := ⟨_, _, _, rfl⟩
    obtain ⟨a, n, c, hv⟩ := hv
    rw [hv] at c1 c2 ⊢
    clear h h1 g hp hv e1 e2
    go_enter Try.func12, Try.ntmps12
    go_wp2_with fail
    refine c1.mono ?_
    rintro e w' ⟨rfl, rfl⟩
    clear c1
    go_wp2_with fail
    refine c2.mono ?_
    rintro e w2 ⟨rfl, hq⟩
    clear c2
    have Q : Hid (Qt w' w2) := hq
    clear hq
    go_wp2
    go_ret3
    exact ⟨rfl, Q.out⟩
  · have e1 : tkv p.z x = 0 := if_neg h
    have e2 : tks p.z x = 0 := if_neg h
    rw [e1, e2]
    rw [pxv_bad h] at c1
    have hE : (pxe p.z x != 0) = true := by simpa using h
    have hv : ∃ a n c, p.v = .slice a n c := ⟨_, _, _, rfl⟩
    obtain ⟨a, n, c, hv⟩ := hv
    rw [hv] at c1 ⊢
    generalize pxe p.z x = E at *
    clear h hp hv e1 e2
    go_enter Try.func12, Try.ntmps12
    go_wp2_with fail
    refine c1.mono ?_
    rintro e w' ⟨rfl, rfl⟩
    clear c1
    go_wp2
    go_ret3
    exact ⟨rfl, Qt.refl _⟩

theorem parts_large (a : Option Addr) (n c : Nat) (x : Int) (w : World) (hn : n ≤ maxLen) (h8 : 8 < n) : Calls Try.prog 10 #[.slice a n c, .int .i64 x] w fun e w' => e = .returned (.int .i64 1) ∧ w' = w := by
  unfold maxLen at hn
  go_enter Try.func10, Try.ntmps10
  go_wp2
  go_ret
  exact ⟨rfl, rfl⟩

theorem parts_small (a : Option Addr) (b o n c : Nat) (z : List Int) (x : Int) (w : World) (hz : z.length = n) (hn : n ≤ 8) (ha : 0 < n → a = some ⟨b, o, none⟩) (h : At w b o z) :
    Calls Try.prog 10 #[.slice a n c, .int .i64 x] w fun e w' => e = .returned (.int .i64 (pxe z x)) ∧ w' = w := by
  have HA : Hid (∀ i, i < n → w.cell? ⟨b, o + i, none⟩ = some (.int .i64 (z.getD i 0))) := fun i hi => h i (by omega)
  have HH : Hid (0 < n → a = some ⟨b, o, none⟩) := ha
  have NX : Hid (∀ i, i < n → (z.take (i + 1)).sum = (z.take i).sum + z.getD i 0) := fun i hi => sum_take_succ z i (by omega)
  have LOW : Hid (∀ i, i < n → z.getD i 0 < 0 → ¬ Prt z) := fun i hi => prt_low (by omega)
  have HIGH : Hid (∀ i, i < n → 16 < z.getD i 0 → ¬ Prt z) := fun i hi => prt_great (by omega)
  have ALL : Hid ((∀ i, i < n → 0 ≤ z.getD i 0) → 1 ≤ z.sum → z.sum ≤ 16 → Prt z) := fun h1 h2 h3 => ⟨all_nonneg (fun i hi => h1 i (by omega)), h2, h3⟩
  have FEW : Hid (z.sum < 1 ∨ 16 < z.sum → ¬ Prt z) := fun h1 h2 => by have := h2.2; omega
  have FN : Hid (z.take n = z) := List.take_of_length_le (by omega)
  have BAD : Hid (¬ Prt z → pxe z x = 4) := fun hp => by
    have e := per_bad (by omega) hp
    have : pxe z x = per z := if_neg (by rw [e]; decide)
    rw [this, e]
  have GOOD : Hid (Prt z → 0 ≤ x → x ≤ 1099511627776 → pxe z x = 0) := fun hp h1 h2 => pxe_good (per_good (by omega) hp) h1 h2
  have GOODX : Hid (Prt z → ¬ (0 ≤ x ∧ x ≤ 1099511627776) → pxe z x = 4) := fun hp h1 => by
    unfold pxe
    rw [if_pos (per_good (by omega) hp), if_neg h1]
  generalize pxe z x = E at *
  clear h hz ha
  go_enter Try.func10, Try.ntmps10
  go_wp2
  go_loopg [5, 7, 13] n (fun gg s4 _ s wr => ∃ (k : Nat) (t : Int), k ≤ n ∧ n - k ≤ gg ∧ 0 ≤ t ∧ t ≤ 16 * k ∧ s4 = .int .i64 t ∧ s = .int .i64 k ∧ wr = w ∧ Aside ((z.take k).sum = t) ∧ Aside (∀ i, i < k → 0 ≤ z.getD i 0))
  case atStart => exact ⟨0, 0, Nat.zero_le _, by omega, by omega, by omega, rfl, rfl, rfl, (by simp : (z.take 0).sum = 0), fun j hj => absurd hj (Nat.not_lt_zero _)⟩
  case round =>
    obtain ⟨k, t, hk, hg, ht0, ht1, rfl, rfl, rfl, T, A⟩ := hrel
    by_cases hlt : k < n
    · have hltz : (k : Int) < (n : Int) := by omega
      obtain rfl := HH.out (by omega)
      have e1 := HA.out k hlt
      have nx := NX.out k hlt
      have low := LOW.out k hlt
      have high := HIGH.out k hlt
      rw [T.out] at nx
      have go : Hid (0 ≤ z.getD k 0 → ∀ i, i < k + 1 → 0 ≤ z.getD i 0) := fun h i hi => by
        rcases Nat.lt_succ_iff_lt_or_eq.1 hi with h' | rfl
        · exact A.out i h'
        · exact h
      generalize z.getD k 0 = y at *
      have HN : Hid ((z.take (k + 1)).sum = t + y) := nx
      have HL : Hid (y < 0 → ¬ Prt z) := low
      have HI : Hid (16 < y → ¬ Prt z) := high
      clear nx low high T A HA HH NX LOW HIGH ALL FEW FN GOOD GOODX
      by_cases hy : y < 0
      · have Q : Hid (E = 4) := BAD.out (HL.out hy)
        clear BAD HL HI go HN
        go_wp2
        go_ret
        exact ⟨ret_int Q.out.symm, rfl⟩
      · by_cases hy2 : 16 < y
        · have Q : Hid (E = 4) := BAD.out (HI.out hy2)
          clear BAD HL HI go HN
          go_wp2
          go_ret
          exact ⟨ret_int Q.out.symm, rfl⟩
        · have go2 : Hid (∀ i, i < k + 1 → 0 ≤ z.getD i 0) := go.out (by omega)
          clear BAD HL HI go
          go_wp2
          go_roundg (n - (k + 1))
          case measure => omega
          case rel => exact ⟨k + 1, t + y, by omega, by omega, by omega, by omega, rfl, by go_num, rfl, HN.out, go2.out⟩
    · have hk' : k = n := by omega
      subst hk'
      have T2 := T.out
      rw [FN.out] at T2
      by_cases h1 : t < 1
      · have Q : Hid (E = 4) := BAD.out (FEW.out (by omega))
        clear T T2 A HA HH NX LOW HIGH ALL FEW FN GOOD GOODX BAD
        go_wp2
        go_ret
        exact ⟨ret_int Q.out.symm, rfl⟩
      · by_cases h2 : 16 < t
        · have Q : Hid (E = 4) := BAD.out (FEW.out (by omega))
          clear T T2 A HA HH NX LOW HIGH ALL FEW FN GOOD GOODX BAD
          go_wp2
          go_ret
          exact ⟨ret_int Q.out.symm, rfl⟩
        · have P : Hid (Prt z) := ALL.out A.out (by omega) (by omega)
          by_cases x1 : x < 0
          · have Q : Hid (E = 4) := GOODX.out P.out (by omega)
            clear T T2 A HA HH NX LOW HIGH ALL FEW FN GOOD GOODX BAD P
            go_wp2
            go_ret
            exact ⟨ret_int Q.out.symm, rfl⟩
          · by_cases x2 : 1099511627776 < x
            · have Q : Hid (E = 4) := GOODX.out P.out (by omega)
              clear T T2 A HA HH NX LOW HIGH ALL FEW FN GOOD GOODX BAD P
              go_wp2
              go_ret
              exact ⟨ret_int Q.out.symm, rfl⟩
            · have Q : Hid (E = 0) := GOOD.out P.out (by omega) (by omega)
              clear T T2 A HA HH NX LOW HIGH ALL FEW FN GOOD GOODX BAD P
              go_wp2
              go_ret
              exact ⟨ret_int Q.out.symm, rfl⟩

theorem parts_any (p : Nm) (x : Int) (w : World) (hp : Nums w p) : Calls Try.prog 10 #[p.v, .int .i64 x] w fun e w' => e = .returned (.int .i64 (pxe p.z x)) ∧ w' = w := by
  obtain ⟨h1, h2, h0, b, o, h3, h4⟩ := hp
  by_cases h8 : p.z.length ≤ 8
  · exact parts_small p.a b o p.z.length p.c p.z x w rfl h8 h3 h4
  · have e := per_large (z := p.z) (by omega)
    have e2 : pxe p.z x = per p.z := if_neg (by rw [e]; decide)
    rw [e2, e]
    exact parts_large p.a p.z.length p.c x w (by omega) (by omega)

theorem parted_any (p : Nm) (x : Int) (w : World) (hp : Nums w p) : Calls Try.prog 17 #[p.v, .int .i64 x] w fun e w' => e = .returned (.bool (pxe p.z x == 0)) ∧ w' = w := by
  have c1 := parts_any p x w hp
  have hv : ∃ a n c, p.v = .slice a n c := ⟨_, _, _, rfl⟩
  obtain ⟨a, n, c, hv⟩ := hv
  rw [hv] at c1 ⊢
  generalize pxe p.z x = E at *
  clear hp hv
  go_enter Try.func17, Try.ntmps17
  go_wp2_with fail
  refine c1.mono ?_
  rintro e w' ⟨rfl, rfl⟩
  clear c1
  go_wp2
  go_ret
  exact ⟨rfl, rfl⟩

end Go.Proofs.Ytchnlbanhkigjaa
