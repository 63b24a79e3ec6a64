/-
  flip.Step, flip.Run.
-/
import Derived.Test.YtabjliijojidmaaSt
namespace Go.Proofs.Ytabjliijojidmaa
open Go.RowKit
set_option linter.unusedVariables false

theorem res3 {fn : Func} {p q r : Tmp} (h : fn.results = #[.tmp p, .tmp q, .tmp r]) (tmps : Array Value) (P : Program) (w : World) :
    (results fn tmps).run P w = .ok (.tuple #[tmps.getD p undef, tmps.getD q undef, tmps.getD r undef]) w := by
  simp [results, h]

/-- flip.Step. -/
theorem fStep_bad (n : Int) (x : Um) (hb : ∀ y ∈ x.z, y < 4294967296) (q : Nat) (hq : q < 4294967296) (w : World) (hx : Us w x) (h : we n x.z q n.toNat ≠ 0) :
    Calls Try.prog 11 #[.int .i64 n, x.v, .int .u32 (q : Nat)] w fun e w' => e = .returned (.tuple #[.int .u32 0, .bool false, .int .i64 (we n x.z q n.toNat)]) ∧ Ext w w' := by
  have c1 := checkWord_any n x hb q hq w hx
  have hz : (we n x.z q n.toNat != 0) = true := by rw [bne_iff_ne]; exact h
  clear h hb hx
  generalize we n x.z q n.toNat = R at *
  obtain ⟨a, c, g⟩ := x
  simp only [Um.v] at *
  generalize g.length = l at *
  go_enter Try.func11, Try.ntmps11
  go_wp2_with fail
  refine c1.mono ?_
  rintro e w' ⟨rfl, E⟩
  have X : Hid (Ext w w') := E
  clear c1 E
  go_wp2
  exact bodyPost_ret (res3 rfl _ _ _) rfl ⟨rfl, X.out⟩

theorem fStep_good (n : Nat) (hn : n ≤ 12) (x : Um) (hl : x.z.length ≤ 8) (hb : ∀ y ∈ x.z, y < 2 ^ n) (q : Nat) (hq : q < 2 ^ n) (w : World) (hx : Us w x) :
    Calls Try.prog 11 #[.int .i64 n, x.v, .int .u32 (q : Nat)] w fun e w' => e = .returned (.tuple #[.int .u32 (fw x.z n q : Nat), .bool (fis x.z n q), .int .i64 0]) ∧ Ext w w' := by
  have hp : 2 ^ n ≤ 2 ^ 12 := Nat.pow_le_pow_right (by omega) hn
  have c1 := checkWord_any n x (rows_low hn hb) q (by omega) w hx
  have ew : we n x.z q (n : Int).toNat = 0 := by rw [we_good hn hl hb, Int.toNat_natCast, if_pos hq]
  rw [ew] at c1
  have c2 : Hid (∀ W, Ext w W → Calls Try.prog 22 #[.int .i64 (n : Int), x.v, .int .u32 (q : Nat)] W fun e w' => e = .returned (.tuple #[.int .u32 (fw x.z n q : Nat), .bool (fis x.z n q)]) ∧ Ext W w') := fun W E => step_any n hn x hl (fun y hy => by have := hb y hy; omega) q hq W (hx.ext E)
  clear hb hx ew
  generalize fw x.z n q = R at *
  generalize fis x.z n q = S at *
  obtain ⟨a, c, g⟩ := x
  simp only [Um.v] at *
  generalize g.length = l at *
  go_enter Try.func11, Try.ntmps11
  go_wp2_with fail
  refine c1.mono ?_
  rintro e w1 ⟨rfl, E⟩
  have X : Hid (Ext w w1) := E
  have c2' := c2.out w1 E
  clear c1 c2 E
  go_wp2_with fail
  refine c2'.mono ?_
  rintro e w2 ⟨rfl, E⟩
  have X2 : Hid (Ext w w2) := X.out.trans E
  clear c2' E X
  go_wp2
  exact bodyPost_ret (res3 rfl _ _ _) rfl ⟨rfl, X2.out⟩

/-- flip.Run. -/
theorem fRun_bad (n : Int) (x : Um) (hb : ∀ y ∈ x.z, y < 4294967296) (q : Nat) (hq : q < 4294967296) (w : World) (hx : Us w x) (h : we n x.z q n.toNat ≠ 0) :
    Calls Try.prog 13 #[.int .i64 n, x.v, .int .u32 (q : Nat)] w fun e w' => e = .returned (.tuple #[.int .u32 0, .int .i64 0, .int .i64 (we n x.z q n.toNat)]) ∧ Ext w w' := by
  have c1 := checkWord_any n x hb q hq w hx
  have hz : (we n x.z q n.toNat != 0) = true := by rw [bne_iff_ne]; exact h
  clear h hb hx
  generalize we n x.z q n.toNat = R at *
  obtain ⟨a, c, g⟩ := x
  simp only [Um.v] at *
  generalize g.length = l at *
  go_enter Try.func13, Try.ntmps13
  go_wp2_with fail
  refine c1.mono ?_
  rintro e w' ⟨rfl, E⟩
  have X : Hid (Ext w w') := E
  clear c1 E
  go_wp2
  exact bodyPost_ret (res3 rfl _ _ _) rfl ⟨rfl, X.out⟩

theorem fRun_good (n : Nat) (hn : n ≤ 12) (x : Um) (hl : x.z.length ≤ 8) (hb : ∀ y ∈ x.z, y < 2 ^ n) (q : Nat) (hq : q < 2 ^ n) (w : World) (hx : Us w x) :
    Calls Try.prog 13 #[.int .i64 n, x.v, .int .u32 (q : Nat)] w fun e w' => ∃ k, Ends x.z n q k ∧ e = .returned (.tuple #[.int .u32 (itr x.z n q k : Nat), .int .i64 k, .int .i64 0]) ∧ Ext w w' := by
  have hp : 2 ^ n ≤ 2 ^ 12 := Nat.pow_le_pow_right (by omega) hn
  have c1 := checkWord_any n x (rows_low hn hb) q (by omega) w hx
  have ew : we n x.z q (n : Int).toNat = 0 := by rw [we_good hn hl hb, Int.toNat_natCast, if_pos hq]
  rw [ew] at c1
  obtain ⟨B, eB⟩ : ∃ B : Nat → Nat, ∀ k, B k = itr x.z n q k := ⟨_, fun _ => rfl⟩
  obtain ⟨S, eS⟩ : ∃ S : Nat → Bool, ∀ k, S k = fis x.z n (itr x.z n q k) := ⟨_, fun _ => rfl⟩
  have c2 : Hid (∀ k W, Ext w W → Calls Try.prog 22 #[.int .i64 (n : Int), x.v, .int .u32 (B k : Nat)] W fun e w' => e = .returned (.tuple #[.int .u32 (B (k + 1) : Nat), .bool (S k)]) ∧ Ext W w') := fun k W E => by
    rw [eB, eB, eS]
    exact step_any n hn x hl (fun y hy => by have := hb y hy; omega) _ (itr_lt hq k) W (hx.ext E)
  have FEW : Hid (∀ k, (∀ j, j < k → S j = true) → k ≤ 8) := fun k h => itr_few hn hl (fun j hj => by rw [← eS]; exact h j hj)
  have EN : Hid (∀ k, Ends x.z n q k ↔ (∀ j, j < k → S j = true) ∧ S k = false) := fun k => by
    unfold Ends
    rw [eS]
    exact ⟨fun h => ⟨fun j hj => by rw [eS]; exact h.1 j hj, h.2⟩, fun h => ⟨fun j hj => by rw [← eS]; exact h.1 j hj, h.2⟩⟩
  have IT : Hid (∀ k, itr x.z n q k = B k) := fun k => (eB k).symm
  have B0 : Hid (q = B 0) := by rw [eB]; rfl
  have P : Hid (∀ k (e : Ending) (w' : World), Ext w w' → S k = false → (∀ j, j < k → S j = true) → e = .returned (.tuple #[.int .u32 (B k : Nat), .int .i64 k, .int .i64 0]) → ∃ k, Ends x.z n q k ∧ e = .returned (.tuple #[.int .u32 (itr x.z n q k : Nat), .int .i64 k, .int .i64 0]) ∧ Ext w w') := fun k e w' E h1 h2 h3 => ⟨k, (EN.out k).2 ⟨h2, h1⟩, by rw [h3, IT.out], E⟩
  have c2z := c2.out 0
  rw [← B0.out] at c2z
  have C2 : Hid (∀ W, Ext w W → Calls Try.prog 22 #[.int .i64 (n : Int), x.v, .int .u32 (q : Nat)] W fun e w' => e = .returned (.tuple #[.int .u32 (B (0 + 1) : Nat), .bool (S 0)]) ∧ Ext W w') := c2z
  clear hb hx ew eB eS EN IT c2z hl hp hq
  generalize Ends x.z n q = EE at *
  generalize itr x.z n q = II at *
  obtain ⟨a, c, g⟩ := x
  simp only [Um.v] at *
  generalize g.length = l at *
  go_enter Try.func13, Try.ntmps13
  go_wp2_with fail
  refine c1.mono ?_
  rintro e w1 ⟨rfl, E⟩
  have X : Aside (Ext w w1) := E
  have c2' := C2.out w1 E
  clear c1 E C2
  go_wp2_with fail
  refine c2'.mono ?_
  rintro e w2 ⟨rfl, E⟩
  have X2 : Aside (Ext w w2) := X.out.trans E
  clear c2' E X
  go_wp2
  go_loopg [2, 10, 11, 12] 9 (fun gg s2 s10 s11 s12 wr => ∃ k : Nat, 9 - k ≤ gg ∧ s2 = .int .u32 (B k : Nat) ∧ s10 = .int .i64 k ∧ s11 = .int .u32 (B (k + 1) : Nat) ∧ s12 = .bool (S k) ∧ Aside (∀ j, j < k → S j = true) ∧ Aside (Ext w wr))
  case atStart => exact ⟨0, by omega, by rw [← B0.out], rfl, rfl, rfl, fun j hj => absurd hj (Nat.not_lt_zero _), X2.out⟩
  case round =>
    obtain ⟨k, hgg, rfl, rfl, rfl, rfl, A, X⟩ := hrel
    have few := FEW.out k A.out
    cases hS : S k
    · have fin : Hid (∀ (e : Ending) (w' : World), Ext w w' → e = .returned (.tuple #[.int .u32 (B k : Nat), .int .i64 k, .int .i64 0]) → ∃ k, EE k ∧ e = .returned (.tuple #[.int .u32 (II k : Nat), .int .i64 k, .int .i64 0]) ∧ Ext w w') := fun e w' E h => P.out k e w' E hS A.out h
      clear P FEW c2 B0
      go_wp2
      exact bodyPost_ret (res3 rfl _ _ _) rfl (fin.out _ _ X.out rfl)
    · have A2 : Aside (∀ j, j < k + 1 → S j = true) := fun j hj => by
        rcases Nat.lt_succ_iff_lt_or_eq.1 hj with h | rfl
        · exact A.out j h
        · exact hS
      have few2 := FEW.out (k + 1) A2.out
      have c3 := c2.out (k + 1) wr X.out
      clear P FEW c2 B0 A
      go_wp2_with fail
      refine c3.mono ?_
      rintro e w' ⟨rfl, E⟩
      have X2 : Aside (Ext w w') := X.out.trans E
      clear c3 E
      go_wp2
      go_roundg (9 - (k + 1))
      case measure => omega
      case rel => exact ⟨k + 1, by omega, rfl, by go_num, rfl, rfl, A2.out, X2.out⟩

end Go.Proofs.Ytabjliijojidmaa
