/-
  quipuref.Trellises.
-/
import Derived.Test.YtnkhlohoaoiefaaDoorVt
import Derived.Test.YtnkhlohoaoiefaaDoorRt
import Derived.Test.YtnkhlohoaoiefaaDoorDgt
import Derived.Test.YtnkhlohoaoiefaaDoorDf
namespace Go.Proofs.YtnkhlohoaoiefaaDoor
open Go.RowKit
set_option linter.unusedVariables false

theorem pow_wrap (s : Nat) (hs : s ≤ 12) : wrap64 ((2 : Int) ^ s) = ((2 ^ s : Nat) : Int) := by
  have h : s = 0 ∨ s = 1 ∨ s = 2 ∨ s = 3 ∨ s = 4 ∨ s = 5 ∨ s = 6 ∨ s = 7 ∨ s = 8 ∨ s = 9 ∨ s = 10 ∨ s = 11 ∨ s = 12 := by omega
  rcases h with rfl | rfl | rfl | rfl | rfl | rfl | rfl | rfl | rfl | rfl | rfl | rfl | rfl <;> simp [wrap64]

set_option maxRecDepth 8000 in
set_option maxHeartbeats 2000000 in
theorem refTrellises_any (x : Wd) (n : Nat) (hl : x.l.length = 2 * n + 4) (hn : n ≤ 12) (w : World) (hx : Bits w x) :
    Calls Tryd.prog 7 #[x.v] w fun e w' => ∃ y : Wd, e = .returned (.tuple #[y.v, .int .i64 (nd x.l n (gy x.l n) : Nat)]) ∧ y.l = dg (gy x.l n) n ∧ Bits w' y ∧ Ext w w' := by
  obtain ⟨f, hf⟩ : ∃ f : Nat → Nat, ∀ k, f k = nd x.l n k := ⟨_, fun _ => rfl⟩
  obtain ⟨L, hL⟩ : ∃ L : Nat → Nat, ∀ k, L k = lst f k := ⟨_, fun _ => rfl⟩
  have ef : f = nd x.l n := funext hf
  have hLE : L (2 ^ n - 1) = gy x.l n := by rw [hL, ef]; rfl
  rw [← hLE, ← hf]
  have HL0 : Hid (L 0 = 0) := by show _ = _; rw [hL]; rfl
  have HLN : Hid (∀ m, L (m + 1) = if f (m + 1) < f (L m) then m + 1 else L m) := fun m => by rw [hL, hL]; rfl
  have HLL : Hid (∀ m, L m ≤ m) := fun m => by rw [hL]; exact lst_le f m
  have hM := Nat.two_pow_pos n
  have hM2 : 2 ^ n ≤ 2 ^ 12 := Nat.pow_le_pow_right (by decide) hn
  have hpw := pow_wrap n hn
  have HS : Hid (∀ k, f k ≤ 28) := fun k => by
    rw [hf]
    show df _ _ ≤ _
    have := df_le (tr (dg k n)) x.l
    rw [tr_len, dg_length] at this
    omega
  have c1 : Hid (∀ k : Nat, k < 2 ^ n → ∀ W : World, Calls Tryd.prog 16 #[.int .i64 k, .int .i64 n] W fun e w' => ∃ B : Nat, e = .returned (.slice (some ⟨B, 0, none⟩) n n) ∧ Bits w' ⟨some ⟨B, 0, none⟩, n, dg k n⟩ ∧ Ext W w') := fun k hk W => by
    refine (digits_any k n (by omega) (by omega) W).mono ?_
    rintro e w' ⟨⟨B, rfl, hR⟩, E⟩
    have := hR.bits (by rw [dg_length]; unfold maxLen; omega)
    rw [dg_length] at this
    exact ⟨B, rfl, this, E⟩
  have c2 : Hid (∀ (k B : Nat) (W : World), Bits W ⟨some ⟨B, 0, none⟩, n, dg k n⟩ → Calls Tryd.prog 17 #[.slice (some ⟨B, 0, none⟩) n n] W fun e w' => ∃ y : Wd, e = .returned y.v ∧ y.l = tr (dg k n) ∧ Bits w' y ∧ Ext W w') := fun k B W hb => by
    have := refTrellis_any ⟨some ⟨B, 0, none⟩, n, dg k n⟩ (by rw [dg_length]; exact hn) W hb
    simp only [Wd.v, dg_length] at this
    exact this
  have c3 : Hid (∀ (k : Nat) (y : Wd) (W : World), y.l = tr (dg k n) → Bits W y → Ext w W → Calls Tryd.prog 11 #[y.v, .slice x.a (2 * n + 4 : Nat) x.c] W fun e w' => e = .returned (.int .i64 (f k : Nat)) ∧ Ext W w') := fun k y W hy hb E => by
    have hyl : y.l.length = 2 * n + 4 := by rw [hy, tr_len, dg_length]
    have := differ_any y x (by rw [hl, hyl]) (by omega) W hb (hx.ext E)
    rw [show x.v = .slice x.a (2 * n + 4 : Nat) x.c by rw [Wd.v, hl]] at this
    rw [hf]
    show Calls _ _ _ _ fun e w' => e = .returned (.int .i64 (df (tr (dg k n)) x.l : Nat)) ∧ _
    rw [← hy]
    exact this.mono (by rintro e w' ⟨rfl, q⟩; exact ⟨rfl, q.ext⟩)
  have HB : Hid (∀ (k B : Nat), ((⟨some ⟨B, 0, none⟩, n, dg k n⟩ : Wd).v) = .slice (some ⟨B, 0, none⟩) n n) := fun k B => by rw [Wd.v, dg_length]
  have hq : (((2 * n + 4 : Nat) : Int)).tdiv 2 = ((n + 2 : Nat) : Int) := by
    rw [show (2 : Int) = ((2 : Nat) : Int) from rfl, ← Int.ofNat_tdiv]
    congr 1
    omega
  obtain ⟨N, hN⟩ : ∃ N, 2 * n + 4 = N := ⟨_, rfl⟩
  have hq' : (N : Int).tdiv 2 = (n : Int) + 2 := by rw [← hN, hq]; omega
  simp only [Wd.v]
  rw [hl]
  rw [hN] at c3 ⊢
  have k1 : Calls Tryd.prog 16 #[.int .i64 0, .int .i64 n] w fun e w' => ∃ B : Nat, e = .returned (.slice (some ⟨B, 0, none⟩) n n) ∧ Bits w' ⟨some ⟨B, 0, none⟩, n, dg 0 n⟩ ∧ Ext w w' := c1.out 0 hM w
  clear hf hL hx ef hLE hq hl hN
  generalize 2 ^ n = M at *
  go_enter Tryd.func7, Tryd.ntmps7
  go_wp2_with fail
  refine k1.mono ?_
  rintro e w1 ⟨B, rfl, hb, E1⟩
  go_wp2_with fail
  refine (c2.out 0 B w1 hb).mono ?_
  rintro e w2 ⟨y, rfl, hy, hyb, E2⟩
  go_wp2_with fail
  refine (c3.out 0 y w2 hy hyb (E1.trans E2)).mono ?_
  rintro e w3 ⟨rfl, E3⟩
  have B3 : Hid (Bits w3 ⟨some ⟨B, 0, none⟩, n, dg 0 n⟩) := hb.ext (E2.trans E3)
  have EE3 : Hid (Ext w w3) := E1.trans (E2.trans E3)
  clear hy hyb E1 E2 E3 hb
  go_wp2_with fail
  go_loopg [5, 6, 7] M (fun gg s5 s6 s7 wr => ∃ k B : Nat, k + 1 ≤ M ∧ M - (k + 1) ≤ gg ∧ s7 = .int .i64 (k + 1 : Nat) ∧ s6 = .int .i64 (f (L k) : Nat) ∧ s5 = .slice (some ⟨B, 0, none⟩) n n ∧ Aside (Bits wr ⟨some ⟨B, 0, none⟩, n, dg (L k) n⟩) ∧ Aside (Ext w wr))
  case atStart => exact ⟨0, B, by omega, by omega, rfl, by rw [HL0.out], rfl, by show Bits _ _; rw [HL0.out]; exact B3.out, EE3.out⟩
  case round =>
    clear B3 EE3 HL0
    obtain ⟨k, C, hk, hgg, rfl, rfl, rfl, BC, E⟩ := hrel
    have E' : Hid (Ext w wr) := E.out
    have BC' : Hid (Bits wr ⟨some ⟨C, 0, none⟩, n, dg (L k) n⟩) := BC.out
    clear E BC
    by_cases hlt : k + 1 < M
    · have hltz : (k : Int) + 1 < (M : Int) := by omega
      have d1 := c1.out (k + 1) hlt wr
      have D2 : Hid (∀ (B : Nat) (W : World), Bits W ⟨some ⟨B, 0, none⟩, n, dg (k + 1) n⟩ → Calls Tryd.prog 17 #[.slice (some ⟨B, 0, none⟩) n n] W fun e w' => ∃ y : Wd, e = .returned y.v ∧ y.l = tr (dg (k + 1) n) ∧ Bits w' y ∧ Ext W w') := c2.out (k + 1)
      have D3 : Hid (∀ (y : Wd) (W : World), y.l = tr (dg (k + 1) n) → Bits W y → Ext w W → Calls Tryd.prog 11 #[y.v, .slice x.a N x.c] W fun e w' => e = .returned (.int .i64 (f (k + 1) : Nat)) ∧ Ext W w') := c3.out (k + 1)
      have hs1 := HS.out (k + 1)
      have hs2 := HS.out (L k)
      have hln := HLN.out k
      have HLN' : Hid (L (k + 1) = if f (k + 1) < f (L k) then k + 1 else L k) := hln
      clear c1 c2 c3 HS HLN hln
      go_wp2_with fail
      refine d1.mono ?_
      rintro e w2 ⟨B2, rfl, hb, E2⟩
      have B2' : Hid (Bits w2 ⟨some ⟨B2, 0, none⟩, n, dg (k + 1) n⟩) := hb
      have E2' : Hid (Ext wr w2) := E2
      clear d1 hb E2
      go_wp2_with fail
      refine (D2.out B2 w2 B2'.out).mono ?_
      rintro e w3 ⟨z, rfl, hz, hzb, E3⟩
      have Z : Hid (z.l = tr (dg (k + 1) n) ∧ Bits w3 z) := ⟨hz, hzb⟩
      have B3' : Hid (Bits w3 ⟨some ⟨B2, 0, none⟩, n, dg (k + 1) n⟩) := B2'.out.ext E3
      have E3' : Hid (Ext wr w3) := E2'.out.trans E3
      clear D2 hz hzb E3 E2' B2'
      go_wp2_with fail
      refine (D3.out z w3 Z.out.1 Z.out.2 (E'.out.trans E3'.out)).mono ?_
      rintro e w4 ⟨rfl, E4⟩
      have B4' : Hid (Bits w4 ⟨some ⟨B2, 0, none⟩, n, dg (k + 1) n⟩) := B3'.out.ext E4
      have E4' : Hid (Ext wr w4) := E3'.out.trans E4
      clear D3 E4 E3' B3' Z
      by_cases hff : f (k + 1) < f (L k)
      · have hffz : (f (k + 1) : Int) < (f (L k) : Int) := by omega
        have e5 : L (k + 1) = k + 1 := by rw [HLN'.out, if_pos hff]
        have N6 : Hid (Value.int .i64 (f (k + 1) : Nat) = .int .i64 (f (L (k + 1)) : Nat)) := by show _ = _; rw [e5]
        have NB : Hid (Bits w4 ⟨some ⟨B2, 0, none⟩, n, dg (L (k + 1)) n⟩) := by show Bits _ _; rw [e5]; exact B4'.out
        have NE : Hid (Ext w w4) := E'.out.trans E4'.out
        clear e5 HLN' BC' B4' E4' E'
        generalize f (k + 1) = u at *
        generalize f (L k) = v at *
        go_wp2
        go_roundg (M - (k + 1 + 1))
        case measure => omega
        case rel => exact ⟨k + 1, B2, by omega, by omega, by go_num, N6.out, rfl, NB.out, NE.out⟩
      · have hffz : ¬ (f (k + 1) : Int) < (f (L k) : Int) := by omega
        have e5 : L (k + 1) = L k := by rw [HLN'.out, if_neg hff]
        have N6 : Hid (Value.int .i64 (f (L k) : Nat) = .int .i64 (f (L (k + 1)) : Nat)) := by show _ = _; rw [e5]
        have NB : Hid (Bits w4 ⟨some ⟨C, 0, none⟩, n, dg (L (k + 1)) n⟩) := by show Bits _ _; rw [e5]; exact BC'.out.ext E4'.out
        have NE : Hid (Ext w w4) := E'.out.trans E4'.out
        clear e5 HLN' BC' B4' E4' E'
        generalize f (k + 1) = u at *
        generalize f (L k) = v at *
        go_wp2
        go_roundg (M - (k + 1 + 1))
        case measure => omega
        case rel => exact ⟨k + 1, C, by omega, by omega, by go_num, N6.out, rfl, NB.out, NE.out⟩
    · obtain rfl : M = k + 1 := by omega
      have hltz : ¬ (k : Int) + 1 < ((k + 1 : Nat) : Int) := by omega
      clear c1 c2 c3 HS HLN HLL HB
      go_wp2
      go_ret2
      exact ⟨⟨some ⟨C, 0, none⟩, n, dg (L k) n⟩, by show _ = Ending.returned (.tuple #[Value.slice _ (dg (L k) n).length n, _]); rw [dg_length]; rfl, rfl, BC'.out, E'.out⟩

end Go.Proofs.YtnkhlohoaoiefaaDoor
