/-
  flip.bad, flip.Bad; quipuref.Bad.
-/
import Derived.Test.YtabjliijojidmaaFl
namespace Go.Proofs.Ytabjliijojidmaa
open Go.RowKit
set_option linter.unusedVariables false

/-- flip.bad. -/
theorem bad_any (x : Um) (q : Nat) (hl : x.z.length ≤ 8) (hb : ∀ y ∈ x.z, y < 4096) (hq : q < 4096) (w : World) (hx : Us w x) :
    Calls Try.prog 18 #[x.v, .int .u32 (q : Nat)] w fun e w' => e = .returned (.int .i64 (bd x.z q : Nat)) ∧ Ext w w' := by
  rw [← bdk_all]
  obtain ⟨a, c, g⟩ := x
  obtain ⟨h1, h2, _, b, o, h4, h5⟩ := hx
  simp only at h1 h2 h4 h5 hb hl
  simp only [Um.v]
  have HC : Hid (∀ i, i < g.length → w.cell? ⟨b, o + i, none⟩ = some (.int .u32 (g.getD i 0 : Nat))) := h5
  have HB : Hid (∀ i, i < g.length → g.getD i 0 < 4096) := fun i hi => by rw [getD_get hi]; exact hb _ (List.getElem_mem hi)
  have HO : Hid (∀ y W, y < 4096 → Calls Try.prog 26 #[.int .u32 (y : Nat), .int .u32 (q : Nat)] W fun e w' => e = .returned (.bool (odd y q)) ∧ Ext W w') := fun y W hy => oddIn_any y q hy hq W
  have YES : Hid (∀ k, k < g.length → odd (g.getD k 0) q = true → bdk g q (k + 1) = bdk g q k + 1) := fun k hk h => bdk_yes (by omega) h
  have NO : Hid (∀ k, odd (g.getD k 0) q = false → bdk g q (k + 1) = bdk g q k) := fun k h => bdk_no h
  have Z0 : Hid (bdk g q 0 = 0) := bdk_none g q
  have LE : Hid (∀ k, bdk g q k ≤ 32) := fun k => popN_le 32 _
  clear h5 hb
  generalize bdk g q = S at *
  generalize g.length = m at *
  go_enter Try.func18, Try.ntmps18
  go_wp2
  go_loopg [5, 10] m (fun gg s5 s10 wr => ∃ k : Nat, k ≤ m ∧ m - k ≤ gg ∧ s10 = .int .i64 k ∧ s5 = .int .i64 (S k : Nat) ∧ Aside (Ext w wr))
  case atStart => exact ⟨0, Nat.zero_le _, by omega, rfl, by rw [Z0.out]; rfl, Ext.refl _⟩
  case round =>
    obtain ⟨k, hk, hgg, rfl, rfl, X⟩ := hrel
    by_cases hlt : k < m
    · have hltz : (k : Int) < (m : Int) := by omega
      obtain rfl := h4 (by omega)
      have e1 := X.out.cell (HC.out k hlt)
      have b1 := HB.out k hlt
      have c1 := HO.out _ wr b1
      have yes := YES.out k hlt
      have no := NO.out k
      have le := LE.out k
      clear HC HB HO YES NO LE Z0
      generalize g.getD k 0 = y at *
      cases ho : odd y q
      · have NX : Hid (S (k + 1) = S k) := no ho
        rw [ho] at c1
        clear yes no ho
        generalize S k = A at *
        go_wp2_with fail
        refine c1.mono ?_
        rintro e w' ⟨rfl, E⟩
        have X2 : Aside (Ext w w') := X.out.trans E
        clear c1 E
        go_wp2
        go_roundg (m - (k + 1))
        case measure => omega
        case rel => exact ⟨k + 1, by omega, by omega, by go_num, by rw [NX.out], X2.out⟩
      · have NX : Hid (S (k + 1) = S k + 1) := yes ho
        rw [ho] at c1
        clear yes no ho
        generalize S k = A at *
        go_wp2_with fail
        refine c1.mono ?_
        rintro e w' ⟨rfl, E⟩
        have X2 : Aside (Ext w w') := X.out.trans E
        clear c1 E
        go_wp2
        go_roundg (m - (k + 1))
        case measure => omega
        case rel => exact ⟨k + 1, by omega, by omega, by go_num, by rw [NX.out]; go_num, X2.out⟩
    · obtain rfl : k = m := by omega
      have hltz : ¬ (k : Int) < (k : Int) := by omega
      clear HC HB HO YES NO LE Z0
      go_wp2
      go_ret
      exact ⟨rfl, X.out⟩

/-- quipuref.Bad. -/
theorem refBad_any (x : Um) (q : Nat) (hl : x.z.length ≤ 8) (hb : ∀ y ∈ x.z, y < 4294967296) (hq : q < 4294967296) (w : World) (hx : Us w x) :
    Calls Try.prog 10 #[x.v, .int .u32 (q : Nat)] w fun e w' => e = .returned (.int .i64 (bd x.z q : Nat)) ∧ w' = w := by
  have c1 := refMark_any x q hl hb hq w hx
  have hm := mk_lt x.z q
  have hp : 2 ^ x.z.length ≤ 2 ^ 8 := Nat.pow_le_pow_right (by omega) hl
  have c2 := size_any (mk x.z q) (by omega) w
  unfold bd
  clear hm hp hx hb
  generalize pop (mk x.z q) = P at *
  generalize mk x.z q = R at *
  obtain ⟨a, c, g⟩ := x
  simp only [Um.v] at *
  generalize g.length = l at *
  go_enter Try.func10, Try.ntmps10
  go_wp2_with fail
  refine c1.mono ?_
  rintro e w' ⟨rfl, rfl⟩
  clear c1
  go_wp2_with fail
  refine c2.mono ?_
  rintro e w' ⟨rfl, rfl⟩
  clear c2
  go_wp2
  go_ret
  exact ⟨rfl, rfl⟩

/-- flip.Bad. -/
theorem fBad_bad (n : Int) (x : Um) (hb : ∀ y ∈ x.z, y < 4294967296) (q : Nat) (hq : q < 4294967296) (w : World) (hx : Us w x) (h : we n x.z q n.toNat ≠ 0) :
    Calls Try.prog 8 #[.int .i64 n, x.v, .int .u32 (q : Nat)] w fun e w' => e = .returned (.tuple #[.int .i64 0, .int .i64 (we n x.z q n.toNat)]) ∧ Ext w w' := by
  have c1 := checkWord_any n x hb q hq w hx
  have hz : (we n x.z q n.toNat != 0) = true := by rw [bne_iff_ne]; exact h
  clear h hb hx
  generalize we n x.z q n.toNat = R at *
  obtain ⟨a, c, g⟩ := x
  simp only [Um.v] at *
  generalize g.length = l at *
  go_enter Try.func8, Try.ntmps8
  go_wp2_with fail
  refine c1.mono ?_
  rintro e w' ⟨rfl, E⟩
  have X : Hid (Ext w w') := E
  clear c1 E
  go_wp2
  go_ret2
  exact ⟨rfl, X.out⟩

theorem fBad_good (n : Nat) (hn : n ≤ 12) (x : Um) (hl : x.z.length ≤ 8) (hb : ∀ y ∈ x.z, y < 2 ^ n) (q : Nat) (hq : q < 2 ^ n) (w : World) (hx : Us w x) :
    Calls Try.prog 8 #[.int .i64 n, x.v, .int .u32 (q : Nat)] w fun e w' => e = .returned (.tuple #[.int .i64 (bd x.z q : Nat), .int .i64 0]) ∧ Ext w w' := by
  have hp : 2 ^ n ≤ 2 ^ 12 := Nat.pow_le_pow_right (by omega) hn
  have c1 := checkWord_any n x (rows_low hn hb) q (by omega) w hx
  have ew : we n x.z q (n : Int).toNat = 0 := by rw [we_good hn hl hb, Int.toNat_natCast, if_pos hq]
  rw [ew] at c1
  have c2 : Hid (∀ W, Ext w W → Calls Try.prog 18 #[x.v, .int .u32 (q : Nat)] W fun e w' => e = .returned (.int .i64 (bd x.z q : Nat)) ∧ Ext W w') := fun W E => bad_any x q hl (fun y hy => by have := hb y hy; omega) (by omega) W (hx.ext E)
  clear hb hx ew
  generalize bd x.z q = R at *
  obtain ⟨a, c, g⟩ := x
  simp only [Um.v] at *
  generalize g.length = l at *
  go_enter Try.func8, Try.ntmps8
  go_wp2_with fail
  refine c1.mono ?_
  rintro e w1 ⟨rfl, E⟩
  have X : Hid (Ext w w1) := E
  have c2' := c2.out w1 E
  clear c1 c2 E
  go_wp2_with fail
  refine c2'.mono ?_
  rintro e w2 ⟨rfl, E⟩
  have X2 : Hid (Ext w w2) := X.out.trans E
  clear c2' E X
  go_wp2
  go_ret2
  exact ⟨rfl, X2.out⟩

end Go.Proofs.Ytabjliijojidmaa
