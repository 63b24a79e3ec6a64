/-
  flip.step; quipuref.Flip.
-/
import Derived.Test.YtabjliijojidmaaBa
namespace Go.Proofs.Ytabjliijojidmaa
open Go.RowKit
set_option linter.unusedVariables false

/-- flip.step. -/
theorem step_any (n : Nat) (hn : n ≤ 12) (x : Um) (hl : x.z.length ≤ 8) (hb : ∀ y ∈ x.z, y < 4096) (q : Nat) (hq : q < 2 ^ n) (w : World) (hx : Us w x) :
    Calls Try.prog 22 #[.int .i64 n, x.v, .int .u32 (q : Nat)] w fun e w' => e = .returned (.tuple #[.int .u32 (fw x.z n q : Nat), .bool (fis x.z n q)]) ∧ Ext w w' := by
  have hp : 2 ^ n ≤ 2 ^ 12 := Nat.pow_le_pow_right (by omega) hn
  have BAD : Hid (∀ z W, z < 4096 → Ext w W → Calls Try.prog 18 #[x.v, .int .u32 (z : Nat)] W fun e w' => e = .returned (.int .i64 (bd x.z z : Nat)) ∧ Ext W w') := fun z W hz E => bad_any x z hl hb hz W (hx.ext E)
  have XL : Hid (∀ k, k < n → q ^^^ 2 ^ k < 4096) := fun k hk => by have := turn_lt hq hk; omega
  have c1 := BAD.out q w (by omega) (Ext.refl w)
  obtain ⟨B, eB⟩ : ∃ B : Nat → Nat, ∀ k, B k = wd q (tk x.z q k).1 := ⟨_, fun _ => rfl⟩
  obtain ⟨F, eF⟩ : ∃ F : Nat → Nat, ∀ k, F k = (tk x.z q k).2 := ⟨_, fun _ => rfl⟩
  have YES : Hid (∀ k, bd x.z (q ^^^ 2 ^ k) < F k → B (k + 1) = q ^^^ 2 ^ k ∧ F (k + 1) = bd x.z (q ^^^ 2 ^ k)) := fun k h => by
    rw [eF] at h
    rw [eB, eF, tk_yes h]
    exact ⟨rfl, rfl⟩
  have NO : Hid (∀ k, ¬ bd x.z (q ^^^ 2 ^ k) < F k → B (k + 1) = B k ∧ F (k + 1) = F k) := fun k h => by
    rw [eF] at h
    rw [eB, eF, tk_no h, eB, eF]
    exact ⟨rfl, rfl⟩
  have Z0 : Hid (B 0 = q ∧ F 0 = bd x.z q) := ⟨by rw [eB]; rfl, by rw [eF]; rfl⟩
  have BF : Hid (∀ z, bd x.z z ≤ 8) := bd_few hl
  have EN : Hid (fw x.z n q = B n ∧ fis x.z n q = (B n != q)) := ⟨(eB n).symm, by rw [fw_ne, eB]; rfl⟩
  have hq' : q < 4096 := by omega
  rw [EN.out.1, EN.out.2]
  clear eB eF hb hx EN
  obtain ⟨a, c, g⟩ := x
  simp only [Um.v] at *
  generalize bd g = D at *
  generalize g.length = m at *
  clear hl hp
  go_enter Try.func22, Try.ntmps22
  go_wp2_with fail
  refine c1.mono ?_
  rintro e w1 ⟨rfl, E⟩
  have E1 : Aside (Ext w w1) := E
  clear c1 E
  go_wp2
  go_loopg [8, 9, 18] n (fun gg s8 s9 s18 wr => ∃ k : Nat, k ≤ n ∧ n - k ≤ gg ∧ s18 = .int .i64 k ∧ s8 = .int .u32 (B k : Nat) ∧ s9 = .int .i64 (F k : Nat) ∧ Aside (Ext w wr))
  case atStart => exact ⟨0, Nat.zero_le _, by omega, rfl, by rw [Z0.out.1], by rw [Z0.out.2], E1.out⟩
  case round =>
    obtain ⟨k, hk, hgg, rfl, rfl, rfl, X⟩ := hrel
    by_cases hlt : k < n
    · have hltz : (k : Int) < (n : Int) := by omega
      have xl := XL.out k hlt
      have c2 := BAD.out _ wr xl X.out
      have yes := YES.out k
      have no := NO.out k
      have d8 := BF.out (q ^^^ 2 ^ k)
      have pw : (2 : Int) ^ k % 4294967296 = ((2 ^ k : Nat) : Int) := pow_in _ (by omega)
      have p2 : 2 ^ k ≤ 2 ^ 12 := Nat.pow_le_pow_right (by omega) (by omega)
      have ex := u32_xor_nat q (2 ^ k) (by omega) (by omega)
      clear XL BAD YES NO BF Z0
      generalize q ^^^ 2 ^ k = Q at *
      generalize 2 ^ k = P at *
      generalize D Q = V at *
      by_cases hV : V < F k
      · have NX : Hid (B (k + 1) = Q ∧ F (k + 1) = V) := yes hV
        have hVz : (V : Int) < (F k : Int) := by omega
        clear yes no
        generalize F k = G at *
        generalize B k = A at *
        go_wp2_with fail
        refine c2.mono ?_
        rintro e w' ⟨rfl, E⟩
        have X2 : Aside (Ext w w') := X.out.trans E
        clear c2 E
        go_wp2
        go_roundg (n - (k + 1))
        case measure => omega
        case rel => exact ⟨k + 1, by omega, by omega, by go_num, by rw [NX.out.1], by rw [NX.out.2], X2.out⟩
      · have NX : Hid (B (k + 1) = B k ∧ F (k + 1) = F k) := no hV
        have hVz : ¬ (V : Int) < (F k : Int) := by omega
        clear yes no
        generalize F k = G at *
        generalize B k = A at *
        go_wp2_with fail
        refine c2.mono ?_
        rintro e w' ⟨rfl, E⟩
        have X2 : Aside (Ext w w') := X.out.trans E
        clear c2 E
        go_wp2
        go_roundg (n - (k + 1))
        case measure => omega
        case rel => exact ⟨k + 1, by omega, by omega, by go_num, by rw [NX.out.1], by rw [NX.out.2], X2.out⟩
    · obtain rfl : k = n := by omega
      have hltz : ¬ (k : Int) < (k : Int) := by omega
      clear XL BAD YES NO BF Z0
      have bz : Hid ((B k != q) = (((B k : Nat) : Int) != ((q : Nat) : Int))) := by
        show (B k != q) = _
        rw [Bool.eq_iff_iff, bne_iff_ne, bne_iff_ne]
        omega
      go_wp2
      go_ret2
      exact ⟨by rw [bz.out]; rfl, X.out⟩

/-- quipuref.Flip. -/
theorem refFlip_any (n : Nat) (hn : n ≤ 12) (x : Um) (hl : x.z.length ≤ 8) (hb : ∀ y ∈ x.z, y < 4294967296) (q : Nat) (hq : q < 2 ^ n) (w : World) (hx : Us w x) :
    Calls Try.prog 12 #[.int .i64 n, x.v, .int .u32 (q : Nat)] w fun e w' => e = .returned (.tuple #[.int .u32 (fw x.z n q : Nat), .bool (fis x.z n q)]) ∧ w' = w := by
  have hp : 2 ^ n ≤ 2 ^ 12 := Nat.pow_le_pow_right (by omega) hn
  have BAD : Hid (∀ z, z < 4096 → Calls Try.prog 10 #[x.v, .int .u32 (z : Nat)] w fun e w' => e = .returned (.int .i64 (bd x.z z : Nat)) ∧ w' = w) := fun z hz => refBad_any x z hl hb (by omega) w hx
  have XL : Hid (∀ k, k < n → q ^^^ 2 ^ k < 4096) := fun k hk => by have := turn_lt hq hk; omega
  have c1 := BAD.out q (by omega)
  obtain ⟨B, eB⟩ : ∃ B : Nat → Option Nat, ∀ k, B k = (tk x.z q k).1 := ⟨_, fun _ => rfl⟩
  obtain ⟨F, eF⟩ : ∃ F : Nat → Nat, ∀ k, F k = (tk x.z q k).2 := ⟨_, fun _ => rfl⟩
  have YES : Hid (∀ k, bd x.z (q ^^^ 2 ^ k) < F k → B (k + 1) = some k ∧ F (k + 1) = bd x.z (q ^^^ 2 ^ k)) := fun k h => by
    rw [eF] at h
    rw [eB, eF, tk_yes h]
    exact ⟨rfl, rfl⟩
  have NO : Hid (∀ k, ¬ bd x.z (q ^^^ 2 ^ k) < F k → B (k + 1) = B k ∧ F (k + 1) = F k) := fun k h => by
    rw [eF] at h
    rw [eB, eF, tk_no h, eB, eF]
    exact ⟨rfl, rfl⟩
  have Z0 : Hid (B 0 = none ∧ F 0 = bd x.z q) := ⟨by rw [eB]; rfl, by rw [eF]; rfl⟩
  have BF : Hid (∀ z, bd x.z z ≤ 8) := bd_few hl
  have BL : Hid (∀ i, B n = some i → i < n) := fun i h => by
    rw [eB] at h
    rcases tk_is x.z q n with ⟨e, _⟩ | ⟨j, hj, e, _⟩
    · rw [e] at h; cases h
    · rw [e] at h; cases h; exact hj
  have EN : Hid (fw x.z n q = wd q (B n) ∧ fis x.z n q = (B n).isSome) := ⟨by rw [eB]; rfl, by rw [eB]; rfl⟩
  have hq' : q < 4096 := by omega
  rw [EN.out.1, EN.out.2]
  clear eB eF hb hx EN
  obtain ⟨a, c, g⟩ := x
  simp only [Um.v] at *
  generalize bd g = D at *
  generalize g.length = m at *
  clear hl hp
  go_enter Try.func12, Try.ntmps12
  go_wp2_with fail
  refine c1.mono ?_
  rintro e w1 ⟨rfl, rfl⟩
  clear c1
  go_wp2
  go_loopg [8, 9, 10] n (fun gg s8 s9 s10 wr => ∃ k : Nat, k ≤ n ∧ n - k ≤ gg ∧ s10 = .int .i64 k ∧ s8 = .int .i64 (ix (B k)) ∧ s9 = .int .i64 (F k : Nat) ∧ wr = w1)
  case atStart => exact ⟨0, Nat.zero_le _, by omega, rfl, by rw [Z0.out.1]; rfl, by rw [Z0.out.2], rfl⟩
  case round =>
    obtain ⟨k, hk, hgg, rfl, rfl, rfl, rfl⟩ := hrel
    by_cases hlt : k < n
    · have hltz : (k : Int) < (n : Int) := by omega
      have xl := XL.out k hlt
      have c2 := BAD.out _ xl
      have yes := YES.out k
      have no := NO.out k
      have d8 := BF.out (q ^^^ 2 ^ k)
      have pw : (2 : Int) ^ k % 4294967296 = ((2 ^ k : Nat) : Int) := pow_in _ (by omega)
      have p2 : 2 ^ k ≤ 2 ^ 12 := Nat.pow_le_pow_right (by omega) (by omega)
      have ex := u32_xor_nat q (2 ^ k) (by omega) (by omega)
      clear XL BAD YES NO BF Z0 BL
      generalize q ^^^ 2 ^ k = Q at *
      generalize 2 ^ k = P at *
      generalize D Q = V at *
      by_cases hV : V < F k
      · have NX : Hid (B (k + 1) = some k ∧ F (k + 1) = V) := yes hV
        have hVz : (V : Int) < (F k : Int) := by omega
        clear yes no
        generalize F k = G at *
        generalize ix (B k) = A at *
        go_wp2_with fail
        refine c2.mono ?_
        rintro e w' ⟨rfl, rfl⟩
        clear c2
        go_wp2
        go_roundg (n - (k + 1))
        case measure => omega
        case rel => exact ⟨k + 1, by omega, by omega, by go_num, by rw [NX.out.1]; rfl, by rw [NX.out.2], rfl⟩
      · have NX : Hid (ix (B (k + 1)) = ix (B k) ∧ F (k + 1) = F k) := ⟨by rw [(no hV).1], (no hV).2⟩
        have hVz : ¬ (V : Int) < (F k : Int) := by omega
        clear yes no
        generalize F k = G at *
        generalize ix (B k) = A at *
        go_wp2_with fail
        refine c2.mono ?_
        rintro e w' ⟨rfl, rfl⟩
        clear c2
        go_wp2
        go_roundg (n - (k + 1))
        case measure => omega
        case rel => exact ⟨k + 1, by omega, by omega, by go_num, by rw [NX.out.1], by rw [NX.out.2], rfl⟩
    · obtain rfl : k = n := by omega
      have hltz : ¬ (k : Int) < (k : Int) := by omega
      clear XL BAD YES NO BF Z0
      cases hB : B k with
      | none =>
        clear BL
        have e1 : ix none = -1 := rfl
        rw [e1]
        clear e1
        go_wp2
        go_ret2
        exact ⟨by rfl, rfl⟩
      | some i =>
        have hi := BL.out i hB
        have e1 : ix (some i) = (i : Int) := rfl
        have e2 : Hid (wd q (some i) = q ^^^ 2 ^ i) := rfl
        rw [e1]
        have hz : ¬ (i : Int) < 0 := by omega
        have pw : (2 : Int) ^ i % 4294967296 = ((2 ^ i : Nat) : Int) := pow_in _ (by omega)
        have p2 : 2 ^ i ≤ 2 ^ 12 := Nat.pow_le_pow_right (by omega) (by omega)
        have ex := u32_xor_nat q (2 ^ i) (by omega) (by omega)
        clear BL e1
        generalize q ^^^ 2 ^ i = Q at *
        generalize 2 ^ i = P at *
        go_wp2
        go_ret2
        exact ⟨by rw [e2.out]; rfl, rfl⟩

end Go.Proofs.Ytabjliijojidmaa
