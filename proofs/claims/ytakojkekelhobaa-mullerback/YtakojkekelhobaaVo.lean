/-
  quipuref.votes.
-/
import Derived.Test.YtakojkekelhobaaPr
namespace Go.Proofs.Ytakojkekelhobaa
open Go.RowKit
set_option linter.unusedVariables false

theorem and_all : ∀ a b : Fin 16, bits BinOp.and IntKind.i64 (a.val : Int) (b.val : Int) = ((a.val &&& b.val : Nat) : Int) := by decide +kernel
theorem and_at {a b : Nat} (ha : a < 16) (hb : b < 16) : bits BinOp.and IntKind.i64 (a : Int) (b : Int) = ((a &&& b : Nat) : Int) := and_all ⟨a, ha⟩ ⟨b, hb⟩
theorem not_all : ∀ a b : Fin 16, bits BinOp.andNot IntKind.u32 (a.val : Int) (b.val : Int) = ((a.val - (a.val &&& b.val) : Nat) : Int) := by decide +kernel
theorem not_at {a b : Nat} (ha : a < 16) (hb : b < 16) : bits BinOp.andNot IntKind.u32 (a : Int) (b : Int) = ((a - (a &&& b) : Nat) : Int) := not_all ⟨a, ha⟩ ⟨b, hb⟩

theorem votes_any (m p : Nat) (hm : m ≤ 4) (hp : p < 16) (x : Wd) (hl : x.l.length = 2 ^ m) (w : World) (hx : Bits w x) :
    Calls Try.prog 22 #[.int .i64 m, x.v, .int .i64 p] w fun e w' => e = .returned (.tuple #[.int .i64 (yes (2 ^ m) p (fun i => x.l.getD i false) (2 ^ m) : Nat), .int .i64 (all p (2 ^ m) : Nat)]) ∧ w' = w := by
  have pw := pow_four m hm
  have lim := pow_lim hm
  obtain ⟨a, c, l⟩ := x
  obtain ⟨h1, h2, _, b, o, h4, h5⟩ := hx
  simp only at h1 h2 h4 h5 hl
  simp only [Wd.v]
  rw [hl] at h1 h4 h5 ⊢
  obtain ⟨B, hB⟩ : ∃ B : Nat → Bool, ∀ k, B k = l.getD k false := ⟨_, fun _ => rfl⟩
  obtain ⟨S, hS⟩ : ∃ S : Nat → Nat → Bool, ∀ q k, S q k = xs (fun x => x - (x &&& p) == q && B x) k := ⟨_, fun _ _ => rfl⟩
  obtain ⟨Y, hY⟩ : ∃ Y : Nat → Nat, ∀ k, Y k = ct (fun q => q &&& p == 0 && S q (2 ^ m)) k := ⟨_, fun _ => rfl⟩
  obtain ⟨A, hA⟩ : ∃ A : Nat → Nat, ∀ k, A k = ct (fun q => q &&& p == 0) k := ⟨_, fun _ => rfl⟩
  have EY : yes (2 ^ m) p (fun i => l.getD i false) (2 ^ m) = Y (2 ^ m) := by
    rw [hY]
    refine ct_congr _ (fun q _ => ?_)
    rw [hS]
    have : B = fun i => l.getD i false := funext hB
    rw [this]; rfl
  have EA : all p (2 ^ m) = A (2 ^ m) := by rw [hA]; rfl
  rw [EY, EA]
  have HC : Hid (∀ i, i < 2 ^ m → w.cell? ⟨b, o + i, none⟩ = some (.bool (B i))) := fun i hi => by rw [hB]; exact h5 i hi
  have S0 : Hid (∀ q, S q 0 = false) := fun q => by rw [hS]; rfl
  have SN : Hid (∀ q k, S q (k + 1) = (S q k != (k - (k &&& p) == q && B k))) := fun q k => by rw [hS, hS]; rfl
  have Y0 : Hid (Y 0 = 0) := by show _ = _; rw [hY]; rfl
  have A0 : Hid (A 0 = 0) := by show _ = _; rw [hA]; rfl
  have AY : Hid (∀ q, q &&& p = 0 → A (q + 1) = A q + 1 ∧ Y (q + 1) = Y q + (if S q (2 ^ m) then 1 else 0)) := fun q h => by
    rw [hA, hA, hY, hY]
    show ct _ q + (if (q &&& p == 0) = true then 1 else 0) = _ ∧ ct _ q + (if (q &&& p == 0 && S q (2 ^ m)) = true then 1 else 0) = _
    rw [h]
    exact ⟨rfl, rfl⟩
  have AN : Hid (∀ q, ¬ q &&& p = 0 → A (q + 1) = A q ∧ Y (q + 1) = Y q) := fun q h => by
    rw [hA, hA, hY, hY]
    show ct _ q + (if (q &&& p == 0) = true then 1 else 0) = _ ∧ ct _ q + (if (q &&& p == 0 && S q (2 ^ m)) = true then 1 else 0) = _
    rw [show (q &&& p == 0) = false from beq_eq_false_iff_ne.2 h]
    exact ⟨rfl, rfl⟩
  have LY : Hid (∀ k, Y k ≤ k ∧ A k ≤ k) := fun k => by rw [hY, hA]; exact ⟨ct_le _ k, ct_le _ k⟩
  have HP : Hid (p < 16) := hp
  clear h5 EY EA hY hA hS hB hl hp
  generalize 2 ^ m = M at *
  go_enter Try.func22, Try.ntmps22
  go_wp2
  go_loopg [8, 9, 10] M (fun gg s8 s9 s10 wr => ∃ q : Nat, q ≤ M ∧ M - q ≤ gg ∧ s10 = .int .i64 q ∧ s8 = .int .i64 (Y q : Nat) ∧ s9 = .int .i64 (A q : Nat) ∧ wr = w)
  case atStart => exact ⟨0, Nat.zero_le _, by omega, rfl, by rw [Y0.out]; rfl, by rw [A0.out]; rfl, rfl⟩
  case round =>
    obtain ⟨q, hq, hgg, rfl, rfl, rfl, rfl⟩ := hrel
    have ly := LY.out q
    clear Y0 A0
    by_cases hlt : q < M
    · have hltz : (q : Int) < (M : Int) := by omega
      have ea := and_at (a := q) (b := p) (by omega) HP.out
      have ay := AY.out q
      have an := AN.out q
      clear AY AN LY
      generalize q &&& p = z at *
      by_cases hz : z = 0
      · have ay' : Hid (A (q + 1) = A q + 1 ∧ Y (q + 1) = Y q + (if S q M then 1 else 0)) := ay hz
        clear ay an
        subst hz
        go_wp2
        clear ea
        rw [pw]
        generalize Y q = y at *
        generalize A q = v at *
        go_loopg [11, 12] M (fun gg s11 s12 wr' => ∃ k : Nat, k ≤ M ∧ M - k ≤ gg ∧ s12 = .int .i64 k ∧ s11 = .bool (S q k) ∧ wr' = wr)
        case atStart => exact ⟨0, Nat.zero_le _, by omega, rfl, by rw [S0.out], rfl⟩
        case round =>
          obtain ⟨k, hk, hgk, rfl, rfl, rfl⟩ := hrel
          clear S0
          by_cases hlk : k < M
          · have hkz : (k : Int) < (M : Int) := by omega
            obtain rfl := h4 (by omega)
            have e1 := HC.out k hlk
            have ek := and_at (a := k) (b := p) (by omega) HP.out
            have kl : k &&& p ≤ k := Nat.and_le_left
            have sn := SN.out q k
            clear HC SN ay'
            generalize k &&& p = t at *
            by_cases ht : k - t = q
            · have hti : (k : Int) - (t : Int) = (q : Int) := by omega
              rw [show (k - t == q) = true from beq_iff_eq.2 ht, Bool.true_and] at sn
              have sn' : Hid (S q (k + 1) = (S q k != B k)) := sn
              clear sn ht
              generalize B k = bk at *
              generalize S q k = sk at *
              cases bk <;> cases sk
              all_goals
                go_wp2
                go_roundg (M - (k + 1))
                case measure => omega
                case rel => exact ⟨k + 1, by omega, by omega, by go_num, by rw [sn'.out]; rfl, rfl⟩
            · have hti : ¬ (k : Int) - (t : Int) = (q : Int) := by omega
              rw [show (k - t == q) = false from beq_eq_false_iff_ne.2 ht, Bool.false_and, Bool.bne_false] at sn
              have sn' : Hid (S q (k + 1) = S q k) := sn
              clear sn ht e1
              generalize S q k = sk at *
              go_wp2
              go_roundg (M - (k + 1))
              case measure => omega
              case rel => exact ⟨k + 1, by omega, by omega, by go_num, by rw [sn'.out], rfl⟩
          · obtain rfl : k = M := by omega
            have hkz : ¬ (k : Int) < (k : Int) := by omega
            clear HC SN
            cases hs : S q k
            · rw [hs] at ay'
              have ay2 : Hid (A (q + 1) = v + 1 ∧ Y (q + 1) = y) := ay'
              clear ay' hs
              go_wp2
              go_roundg (k - (q + 1))
              case measure => omega
              case rel => exact ⟨q + 1, by omega, by omega, by go_num, by rw [ay2.out.2], by rw [ay2.out.1]; go_num, rfl⟩
            · rw [hs] at ay'
              have ay2 : Hid (A (q + 1) = v + 1 ∧ Y (q + 1) = y + 1) := ay'
              clear ay' hs
              go_wp2
              go_roundg (k - (q + 1))
              case measure => omega
              case rel => exact ⟨q + 1, by omega, by omega, by go_num, by rw [ay2.out.2]; go_num, by rw [ay2.out.1]; go_num, rfl⟩
      · have an' : Hid (A (q + 1) = A q ∧ Y (q + 1) = Y q) := an hz
        have hzi : ¬ (z : Int) = 0 := by omega
        clear ay an HC SN S0
        generalize Y q = y at *
        generalize A q = v at *
        go_wp2
        go_roundg (M - (q + 1))
        case measure => omega
        case rel => exact ⟨q + 1, by omega, by omega, by go_num, by rw [an'.out.2], by rw [an'.out.1], rfl⟩
    · obtain rfl : q = M := by omega
      have hltz : ¬ (q : Int) < (q : Int) := by omega
      clear HC SN S0 AY AN LY
      go_wp2
      go_ret2
      exact ⟨rfl, rfl⟩

end Go.Proofs.Ytakojkekelhobaa
