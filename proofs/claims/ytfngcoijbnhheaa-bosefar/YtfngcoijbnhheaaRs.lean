/-
  rest.restOf.
-/
import Derived.Test.YtfngcoijbnhheaaChk
namespace Go.Proofs.Ytfngcoijbnhheaa
open Go.RowKit
set_option linter.unusedVariables false

theorem top_lt {x d : Nat} (hd : 1 ≤ d) (hx : x < 2 ^ d) (b : Bool) (h : x.testBit (d - 1) = false) : sh x b < 2 ^ d := by
  apply lt_of_bits
  intro i hi
  rw [sh_at, if_neg (by omega)]
  by_cases e : i = d
  · rw [e]; exact h
  · exact Nat.testBit_lt_two_pow (Nat.lt_of_lt_of_le hx (Nat.pow_le_pow_right (by omega) (by omega)))
theorem top_ge {x d : Nat} (hd : 1 ≤ d) (b : Bool) (h : x.testBit (d - 1) = true) : 2 ^ d ≤ sh x b := by
  apply Nat.ge_two_pow_of_testBit
  rw [sh_at, if_neg (by omega)]
  exact h

theorem restOf_any (g : Nat) (hg : G g) (x : Wd) (hl : x.l.length ≤ 1000) (w : World) (hx : Bits w x) : Calls Try.prog 23 #[.int .u32 g, x.v] w fun e w' => e = .returned (.int .u32 (rs g x.l : Nat)) ∧ w' = w := by
  obtain ⟨a, c, l⟩ := x
  obtain ⟨h1, h2, _, b, o, h4, h5⟩ := hx
  simp only at h1 h2 h4 h5 hl
  simp only [Wd.v]
  unfold rs
  obtain ⟨B, hB⟩ : ∃ B : Nat → Bool, ∀ k, B k = l.getD k false := ⟨_, fun _ => rfl⟩
  have e0 : (fun i => l.getD i false) = B := funext (fun i => (hB i).symm)
  rw [e0]
  have hd := hg.deg
  have hg0 : g ≠ 0 := by obtain ⟨_, h, _⟩ := hg; omega
  have hg1 : g ≤ 131071 := hg.2.2
  have c1 := degreeOf_any g hg0 (by omega) w
  obtain ⟨X, hX⟩ : ∃ X : Nat → Nat, ∀ k, X k = rn g B k := ⟨_, fun _ => rfl⟩
  obtain ⟨D, hD⟩ : ∃ D, 2 ^ g.log2 = D := ⟨_, rfl⟩
  have hD16 : D ≤ 65536 := by rw [← hD]; exact Nat.pow_le_pow_right (by omega) hd.2
  have hD1 : 0 < D := by rw [← hD]; exact Nat.two_pow_pos _
  have XL : Hid (∀ k, X k < D) := fun k => by rw [hX, ← hD]; exact rn_lt hg B k
  have X0 : Hid (X 0 = 0) := hX 0
  have XA : Hid (∀ k, 2 * X k + (B k).toNat < D → X (k + 1) = 2 * X k + (B k).toNat) := fun k h => by
    rw [hX, hX] at *
    show st g _ _ = _
    unfold st
    cases ht : (rn g B k).testBit (g.log2 - 1)
    · rw [if_neg (by decide), Nat.xor_zero]; rfl
    · have := top_ge (d := g.log2) hd.1 (B k) ht
      unfold sh at this
      omega
  have XB : Hid (∀ k, D ≤ 2 * X k + (B k).toNat → X (k + 1) = (2 * X k + (B k).toNat) ^^^ g) := fun k h => by
    rw [hX, hX] at *
    show st g _ _ = _
    unfold st
    cases ht : (rn g B k).testBit (g.log2 - 1)
    · have := top_lt (d := g.log2) hd.1 (rn_lt hg B k) (B k) ht
      unfold sh at this
      omega
    · rw [if_pos rfl]; rfl
  have HC : Hid (∀ i, i < l.length → w.cell? ⟨b, o + i, none⟩ = some (.bool (B i))) := fun i hi => by rw [hB]; exact h5 i hi
  rw [← hX]
  have hD' : Hid ((2 : Int) ^ g.log2 = (D : Int)) := by show _ = _; rw [← hD, Int.natCast_pow]; rfl
  clear h5 hX hB e0 hD hg hg0
  generalize g.log2 = d at *
  generalize l.length = n at *
  unfold maxLen at h2
  go_enter Try.func23, Try.ntmps23
  go_wp2_with (go_at_call 22; refine c1.mono ?_; rintro e w2 ⟨rfl, rfl⟩; clear c1)
  go_loopg [6, 8, 13] n (fun gg s6 s8 s13 wr => ∃ k : Nat, k ≤ n ∧ n - k ≤ gg ∧ s13 = .int .i64 k ∧ s6 = .int .u32 (X k : Nat) ∧ wr = w2)
  case atStart => exact ⟨0, Nat.zero_le _, by omega, rfl, by rw [X0.out]; rfl, rfl⟩
  case round =>
    obtain ⟨k, hk, hgg, rfl, rfl, rfl⟩ := hrel
    by_cases hlt : k < n
    · have hltz : (k : Int) < (n : Int) := by omega
      obtain rfl := h4 (by omega)
      have e1 := HC.out k hlt
      have xl := XL.out k
      have xa := XA.out k
      have xb := XB.out k
      clear HC XL XA XB X0 h4
      have hm : (2 : Int) ^ d = (D : Int) := hD'.out
      clear hD'
      generalize X k = y at *
      cases hb' : B k
      · rw [hb'] at e1 xa xb
        by_cases hy : 2 * y < D
        · have nx : Hid (X (k + 1) = 2 * y) := xa hy
          have eq0 : ((y : Int) * 2 / 2 ^ d != 0) = false := by
            rw [hm, show (y : Int) * 2 = ((2 * y : Nat) : Int) by omega, ← Int.natCast_ediv, Nat.div_eq_of_lt hy]; rfl
          clear xa xb hm
          go_wp2
          go_roundg (n - (k + 1))
          case measure => omega
          case rel => exact ⟨k + 1, by omega, by omega, by go_num, by rw [nx.out]; go_num, rfl⟩
        · have nx : Hid (X (k + 1) = 2 * y ^^^ g) := xb (by show D ≤ 2 * y + 0; omega)
          have eq0 : ((y : Int) * 2 / 2 ^ d != 0) = true := by
            rw [hm, show (y : Int) * 2 = ((2 * y : Nat) : Int) by omega, ← Int.natCast_ediv, bne_iff_ne]
            have := Nat.div_pos (a := 2 * y) (b := D) (by omega) hD1
            omega
          have ex : bits BinOp.xor IntKind.u32 ((y : Int) * 2) (g : Int) = ((2 * y ^^^ g : Nat) : Int) := by
            rw [show (y : Int) * 2 = ((2 * y : Nat) : Int) by omega]
            exact u32_xor_nat _ _ (by omega) (by omega)
          clear xa xb hm
          generalize 2 * y ^^^ g = z at *
          go_wp2
          go_roundg (n - (k + 1))
          case measure => omega
          case rel => exact ⟨k + 1, by omega, by omega, by go_num, by rw [nx.out], rfl⟩
      · rw [hb'] at e1 xa xb
        have eo : bits BinOp.or IntKind.u32 ((y : Int) * 2) 1 = (y : Int) * 2 + 1 := by
          have := u32_or_nat (2 * y) 1 (by omega) (by omega)
          rw [show (2 * y) ||| 1 = 2 * y + 1 by rw [← Nat.two_pow_add_eq_or_of_lt (i := 1) (b := 1) (by omega) y]] at this
          rw [show (y : Int) * 2 = ((2 * y : Nat) : Int) by omega]
          refine this.trans ?_
          omega
        by_cases hy : 2 * y + 1 < D
        · have nx : Hid (X (k + 1) = 2 * y + 1) := xa hy
          have eq0 : (((y : Int) * 2 + 1) / 2 ^ d != 0) = false := by
            rw [hm, show (y : Int) * 2 + 1 = ((2 * y + 1 : Nat) : Int) by omega, ← Int.natCast_ediv, Nat.div_eq_of_lt hy]; rfl
          clear xa xb hm
          go_wp2
          go_roundg (n - (k + 1))
          case measure => omega
          case rel => exact ⟨k + 1, by omega, by omega, by go_num, by rw [nx.out]; go_num, rfl⟩
        · have nx : Hid (X (k + 1) = (2 * y + 1) ^^^ g) := xb (by show D ≤ 2 * y + 1; omega)
          have eq0 : (((y : Int) * 2 + 1) / 2 ^ d != 0) = true := by
            rw [hm, show (y : Int) * 2 + 1 = ((2 * y + 1 : Nat) : Int) by omega, ← Int.natCast_ediv, bne_iff_ne]
            have := Nat.div_pos (a := 2 * y + 1) (b := D) (by omega) hD1
            omega
          have ex : bits BinOp.xor IntKind.u32 ((y : Int) * 2 + 1) (g : Int) = (((2 * y + 1) ^^^ g : Nat) : Int) := by
            rw [show (y : Int) * 2 + 1 = ((2 * y + 1 : Nat) : Int) by omega]
            exact u32_xor_nat _ _ (by omega) (by omega)
          clear xa xb hm
          generalize (2 * y + 1) ^^^ g = z at *
          go_wp2
          go_roundg (n - (k + 1))
          case measure => omega
          case rel => exact ⟨k + 1, by omega, by omega, by go_num, by rw [nx.out], rfl⟩
    · obtain rfl : k = n := by omega
      have hltz : ¬ (k : Int) < (k : Int) := by omega
      clear HC XL XA XB X0
      go_wp2
      go_ret
      exact ⟨rfl, rfl⟩

end Go.Proofs.Ytfngcoijbnhheaa
