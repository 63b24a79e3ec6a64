/-
  For any rows and any data: what is put is a sum, and the nearest two sums are as far apart as the one with the fewest bits has, but 0: SpanLeast returns true for every number, every list of words and every list of bits, and changes nothing.
-/
import Derived.Test.YtdfjjjcaibadoabOpu
import Derived.Test.YtdfjjjcaibadoabPt
import Derived.Test.YtdfjjjcaibadoabIn
namespace Go.Proofs.Ytdfjjjcaibadoab
open Go.ChangeShapes Go.WideShapes Go.ChangeAt Go.RowKit Go.Deep
set_option linter.unusedVariables false

theorem spanLeast_bad (n : Int) (x : Um) (hb : ∀ y ∈ x.z, y < 4294967296) (h : re n x.z ≠ 0) (y : Bm) (w : World) (hx : Us w x) :
    Calls Try.prog 4 #[.int .i64 n, x.v, y.v] w fun e w' => e = .returned (.bool true) ∧ Ext w w' := by
  have c1 := put_bad n x hb y h w hx
  have c2 : Hid (∀ W, Ext w W → Calls Try.prog 14 #[.int .i64 n, x.v] W fun e w' => e = .returned (.tuple #[.slice none 0 0, .int .i64 (re n x.z)]) ∧ Ext W w') := fun W E => span_bad n x hb h W (hx.ext E)
  have c3 : Hid (∀ W, Ext w W → Calls Try.prog 10 #[.int .i64 n, x.v] W fun e w' => e = .returned (.bool false) ∧ w' = W) := fun W E => by
    have := rowed_any n x hb W (hx.ext E)
    rw [show (re n x.z == 0) = false by rw [beq_eq_false_iff_ne]; exact h] at this
    exact this
  have hz : (re n x.z != 0) = true := by rw [bne_iff_ne]; exact h
  clear h hb hx
  generalize re n x.z = R at *
  obtain ⟨a, c, g⟩ := x
  obtain ⟨ay, cy, l⟩ := y
  simp only [Um.v, Bm.v] at *
  generalize g.length = m at *
  generalize l.length = ml at *
  go_enter Try.func4, Try.ntmps4
  go_wp2_with fail
  refine c1.mono ?_
  rintro e w1 ⟨rfl, E1⟩
  have X1 : Aside (Ext w w1) := E1
  have c2' := c2.out w1 E1
  clear c1 c2 E1
  go_wp2_with fail
  refine c2'.mono ?_
  rintro e w2 ⟨rfl, E2⟩
  have X2 : Aside (Ext w w2) := X1.out.trans E2
  have c3' := c3.out w2 X2.out
  clear c2' c3 E2 X1
  go_wp2_with fail
  refine c3'.mono ?_
  rintro e w3 ⟨rfl, rfl⟩
  clear c3'
  go_wp2
  go_ret
  exact ⟨ret_bool (by first | rfl | simp [hz]), X2.out⟩

theorem spanLeast_okfew (n : Nat) (hn : n ≤ 12) (x : Um) (hl : x.z.length ≤ 8) (hb : ∀ y ∈ x.z, y < 2 ^ n) (y : Bm) (h : y.l.length = x.z.length) (hs : (spn n x.z).length < 2) (w : World) (hx : Us w x) (hy : Bs w y) :
    Calls Try.prog 4 #[.int .i64 n, x.v, y.v] w fun e w' => e = .returned (.bool true) ∧ Ext w w' := by
  have hml := Nat.le_trans hy.1 hy.2.1
  unfold maxLen at hml
  have c1 := put_good n hn x hl hb y h w hx hy
  have c4 : Hid (∀ W, Ext w W → Calls Try.prog 15 #[x.v, .int .u32 (sP x.z (fun k => y.l.getD k false) x.z.length : Nat)] W fun e w' => e = .returned (.bool true) ∧ w' = W) := fun W E => by
    have := in_any x (sP x.z (fun k => y.l.getD k false) x.z.length) hl (rows_low hn hb) W (hx.ext E)
    rw [inb_sP] at this
    exact this
  have R32 := sP_32 (rows_low hn hb) (fun k => y.l.getD k false) (Nat.le_refl _)
  have c2 : Hid (∀ W, Ext w W → Calls Try.prog 14 #[.int .i64 n, x.v] W fun e w' => Hid (∃ v, e = .returned (.tuple #[v, .int .i64 0]) ∧ OwnU W w' v (spn n x.z))) := fun W E => span_good n hn x hl hb W (hx.ext E)
  have c3 : Hid (∀ W, Ext w W → Calls Try.prog 10 #[.int .i64 n, x.v] W fun e w' => e = .returned (.bool true) ∧ w' = W) := fun W E => by
    have := rowed_any n x (rows_low hn hb) W (hx.ext E)
    rw [re_good hn hl hb] at this
    exact this
  have LS := spn_lin hb
  have S1 : 1 ≤ (spn n x.z).length := List.length_pos_of_mem LS.zero
  have LOW : ∀ y ∈ spn n x.z, y < 4096 := fun u hu => by
    have h1 := LS.low u hu
    have h2 : 2 ^ n ≤ 2 ^ 12 := Nat.pow_le_pow_right (by omega) hn
    omega
  have c5 : Hid (∀ (X : Um) W, X.z = spn n x.z → Us W X → Calls Try.prog 16 #[.int .i64 n, X.v] W fun e w' => e = .returned (.tuple #[.int .i64 0, .int .i64 5]) ∧ Ext W w') := fun X W e U =>
    least_none n X (by rw [e]; exact fun u hu => by have := LOW u hu; omega) W U (by rw [e]; exact (LS.book hn (by omega)).told) (by rw [e]; exact hs)
  clear hb hx hy LS LOW
  generalize sP x.z (fun k => y.l.getD k false) x.z.length = R at *
  skip
  generalize spn n x.z = S at *
  obtain ⟨a, c, g⟩ := x
  obtain ⟨ay, cy, l⟩ := y
  simp only [Um.v, Bm.v] at *
  generalize g.length = m at *
  generalize l.length = ml at *
  subst h
  have hz : ((ml : Int) == (ml : Int)) = true := by simp
  go_enter Try.func4, Try.ntmps4
  go_wp2_with fail
  refine c1.mono ?_
  rintro e w1 ⟨rfl, E1⟩
  have X1 : Hid (Ext w w1) := E1
  have c2' := c2.out w1 E1
  clear c1 c2 E1
  go_wp2_with fail
  refine c2'.mono ?_
  intro e w2 h2
  obtain ⟨v, rfl, O⟩ := h2.out
  have X2 : Hid (Ext w w2) := X1.out.trans O.1
  obtain ⟨X, rfl, ez, U⟩ := O.us
  have U2 : Hid (Us w2 X) := U
  have EZ : Hid (X.z = S) := ez
  have c3' := c3.out w2 X2.out
  have c5' := c5.out X w2 ez U
  clear c2' c3 c5 h2 O X1 U
  have c4' := c4.out w2 X2.out
  clear c4
  obtain ⟨aX, cX, gX⟩ := X
  simp only [Um.v] at *
  have hlen : gX.length = S.length := by rw [ez]
  rw [hlen] at c5' ⊢
  clear ez hlen
  generalize S.length = ln at *
  go_wp2_with fail
  refine c3'.mono ?_
  rintro e w3 ⟨rfl, rfl⟩
  clear c3'
  go_wp2_with fail
  refine c4'.mono ?_
  rintro e w4 ⟨rfl, rfl⟩
  clear c4'
  go_wp2_with fail
  refine c5'.mono ?_
  rintro e w5 ⟨rfl, E5⟩
  have X5 : Hid (Ext w w5) := X2.out.trans E5
  clear c5' E5
  have hs' : (ln : Int) < 2 := by omega
  skip
  have hs3 : (ln : Int) > 0 := by omega
  go_wp2
  go_ret
  exact ⟨ret_bool (by simp; omega), X5.out⟩

theorem spanLeast_okmany (n : Nat) (hn : n ≤ 12) (x : Um) (hl : x.z.length ≤ 8) (hb : ∀ y ∈ x.z, y < 2 ^ n) (y : Bm) (h : y.l.length = x.z.length) (hs : 64 < (spn n x.z).length) (w : World) (hx : Us w x) (hy : Bs w y) :
    Calls Try.prog 4 #[.int .i64 n, x.v, y.v] w fun e w' => e = .returned (.bool true) ∧ Ext w w' := by
  have hml := Nat.le_trans hy.1 hy.2.1
  unfold maxLen at hml
  have c1 := put_good n hn x hl hb y h w hx hy
  have c4 : Hid (∀ W, Ext w W → Calls Try.prog 15 #[x.v, .int .u32 (sP x.z (fun k => y.l.getD k false) x.z.length : Nat)] W fun e w' => e = .returned (.bool true) ∧ w' = W) := fun W E => by
    have := in_any x (sP x.z (fun k => y.l.getD k false) x.z.length) hl (rows_low hn hb) W (hx.ext E)
    rw [inb_sP] at this
    exact this
  have R32 := sP_32 (rows_low hn hb) (fun k => y.l.getD k false) (Nat.le_refl _)
  have c2 : Hid (∀ W, Ext w W → Calls Try.prog 14 #[.int .i64 n, x.v] W fun e w' => Hid (∃ v, e = .returned (.tuple #[v, .int .i64 0]) ∧ OwnU W w' v (spn n x.z))) := fun W E => span_good n hn x hl hb W (hx.ext E)
  have c3 : Hid (∀ W, Ext w W → Calls Try.prog 10 #[.int .i64 n, x.v] W fun e w' => e = .returned (.bool true) ∧ w' = W) := fun W E => by
    have := rowed_any n x (rows_low hn hb) W (hx.ext E)
    rw [re_good hn hl hb] at this
    exact this
  have LS := spn_lin hb
  have S1 : 1 ≤ (spn n x.z).length := List.length_pos_of_mem LS.zero
  have LOW : ∀ y ∈ spn n x.z, y < 4096 := fun u hu => by
    have h1 := LS.low u hu
    have h2 : 2 ^ n ≤ 2 ^ 12 := Nat.pow_le_pow_right (by omega) hn
    omega
  have c5 : Hid (∀ (X : Um) W, X.z = spn n x.z → Us W X → Calls Try.prog 16 #[.int .i64 n, X.v] W fun e w' => e = .returned (.tuple #[.int .i64 0, .int .i64 1]) ∧ Ext W w') := fun X W e U => by
    have b1 : bke n X.z = 1 := by rw [e]; exact bke_out (fun h => by omega)
    have := least_bad n X (by rw [e]; exact fun u hu => by have := LOW u hu; omega) W U (by rw [b1]; decide)
    rw [b1] at this
    exact this
  clear hb hx hy LS LOW
  generalize sP x.z (fun k => y.l.getD k false) x.z.length = R at *
  skip
  generalize spn n x.z = S at *
  obtain ⟨a, c, g⟩ := x
  obtain ⟨ay, cy, l⟩ := y
  simp only [Um.v, Bm.v] at *
  generalize g.length = m at *
  generalize l.length = ml at *
  subst h
  have hz : ((ml : Int) == (ml : Int)) = true := by simp
  go_enter Try.func4, Try.ntmps4
  go_wp2_with fail
  refine c1.mono ?_
  rintro e w1 ⟨rfl, E1⟩
  have X1 : Hid (Ext w w1) := E1
  have c2' := c2.out w1 E1
  clear c1 c2 E1
  go_wp2_with fail
  refine c2'.mono ?_
  intro e w2 h2
  obtain ⟨v, rfl, O⟩ := h2.out
  have X2 : Hid (Ext w w2) := X1.out.trans O.1
  obtain ⟨X, rfl, ez, U⟩ := O.us
  have U2 : Hid (Us w2 X) := U
  have EZ : Hid (X.z = S) := ez
  have c3' := c3.out w2 X2.out
  have c5' := c5.out X w2 ez U
  clear c2' c3 c5 h2 O X1 U
  have c4' := c4.out w2 X2.out
  clear c4
  obtain ⟨aX, cX, gX⟩ := X
  simp only [Um.v] at *
  have hlen : gX.length = S.length := by rw [ez]
  rw [hlen] at c5' ⊢
  clear ez hlen
  generalize S.length = ln at *
  go_wp2_with fail
  refine c3'.mono ?_
  rintro e w3 ⟨rfl, rfl⟩
  clear c3'
  go_wp2_with fail
  refine c4'.mono ?_
  rintro e w4 ⟨rfl, rfl⟩
  clear c4'
  go_wp2_with fail
  refine c5'.mono ?_
  rintro e w5 ⟨rfl, E5⟩
  have X5 : Hid (Ext w w5) := X2.out.trans E5
  clear c5' E5
  have hs' : (ln : Int) > 64 := by omega
  have hs2 : ¬ (ln : Int) < 2 := by omega
  have hs3 : (ln : Int) > 0 := by omega
  go_wp2
  go_ret
  exact ⟨ret_bool (by simp; omega), X5.out⟩

theorem spanLeast_okfit (n : Nat) (hn : n ≤ 12) (x : Um) (hl : x.z.length ≤ 8) (hb : ∀ y ∈ x.z, y < 2 ^ n) (y : Bm) (h : y.l.length = x.z.length) (hs : 2 ≤ (spn n x.z).length ∧ (spn n x.z).length ≤ 64) (w : World) (hx : Us w x) (hy : Bs w y) :
    Calls Try.prog 4 #[.int .i64 n, x.v, y.v] w fun e w' => e = .returned (.bool true) ∧ Ext w w' := by
  have hml := Nat.le_trans hy.1 hy.2.1
  unfold maxLen at hml
  have c1 := put_good n hn x hl hb y h w hx hy
  have c4 : Hid (∀ W, Ext w W → Calls Try.prog 15 #[x.v, .int .u32 (sP x.z (fun k => y.l.getD k false) x.z.length : Nat)] W fun e w' => e = .returned (.bool true) ∧ w' = W) := fun W E => by
    have := in_any x (sP x.z (fun k => y.l.getD k false) x.z.length) hl (rows_low hn hb) W (hx.ext E)
    rw [inb_sP] at this
    exact this
  have R32 := sP_32 (rows_low hn hb) (fun k => y.l.getD k false) (Nat.le_refl _)
  have c2 : Hid (∀ W, Ext w W → Calls Try.prog 14 #[.int .i64 n, x.v] W fun e w' => Hid (∃ v, e = .returned (.tuple #[v, .int .i64 0]) ∧ OwnU W w' v (spn n x.z))) := fun W E => span_good n hn x hl hb W (hx.ext E)
  have c3 : Hid (∀ W, Ext w W → Calls Try.prog 10 #[.int .i64 n, x.v] W fun e w' => e = .returned (.bool true) ∧ w' = W) := fun W E => by
    have := rowed_any n x (rows_low hn hb) W (hx.ext E)
    rw [re_good hn hl hb] at this
    exact this
  have LS := spn_lin hb
  have S1 : 1 ≤ (spn n x.z).length := List.length_pos_of_mem LS.zero
  have LOW : ∀ y ∈ spn n x.z, y < 4096 := fun u hu => by
    have h1 := LS.low u hu
    have h2 : 2 ^ n ≤ 2 ^ 12 := Nat.pow_le_pow_right (by omega) hn
    omega
  have c5 : Hid (∀ (X : Um) W, X.z = spn n x.z → Us W X → Calls Try.prog 16 #[.int .i64 n, X.v] W fun e w' => e = .returned (.tuple #[.int .i64 (fw n (spn n x.z) (spn n x.z).length : Nat), .int .i64 0]) ∧ Ext W w') := fun X W e U => by
    have := least_good n X W U (by rw [e]; exact LS.book hn hs.2) (by rw [e]; exact hs.1)
    rw [e, LS.least hn hs.1 hs.2] at this
    exact this
  have FN : Hid (∀ k, fw n (spn n x.z) (k + 1) = if (spn n x.z).getD k 0 ≠ 0 ∧ pop ((spn n x.z).getD k 0) < fw n (spn n x.z) k then pop ((spn n x.z).getD k 0) else fw n (spn n x.z) k) := fun k => rfl
  have F0 : Hid (fw n (spn n x.z) 0 = n) := rfl
  have FL : Hid (∀ k, fw n (spn n x.z) k ≤ n) := fw_le n _
  have LW : Hid (∀ k, k < (spn n x.z).length → (spn n x.z).getD k 0 < 4096) := fun k hk => LOW _ (getD_mem hk)
  clear hb hx hy LS LOW
  generalize sP x.z (fun k => y.l.getD k false) x.z.length = R at *
  generalize fw n (spn n x.z) = F at *
  generalize spn n x.z = S at *
  obtain ⟨a, c, g⟩ := x
  obtain ⟨ay, cy, l⟩ := y
  simp only [Um.v, Bm.v] at *
  generalize g.length = m at *
  generalize l.length = ml at *
  subst h
  have hz : ((ml : Int) == (ml : Int)) = true := by simp
  go_enter Try.func4, Try.ntmps4
  go_wp2_with fail
  refine c1.mono ?_
  rintro e w1 ⟨rfl, E1⟩
  have X1 : Hid (Ext w w1) := E1
  have c2' := c2.out w1 E1
  clear c1 c2 E1
  go_wp2_with fail
  refine c2'.mono ?_
  intro e w2 h2
  obtain ⟨v, rfl, O⟩ := h2.out
  have X2 : Hid (Ext w w2) := X1.out.trans O.1
  obtain ⟨X, rfl, ez, U⟩ := O.us
  have U2 : Hid (Us w2 X) := U
  have EZ : Hid (X.z = S) := ez
  have c3' := c3.out w2 X2.out
  have c5' := c5.out X w2 ez U
  clear c2' c3 c5 h2 O X1 U
  have c4' := c4.out w2 X2.out
  clear c4
  obtain ⟨aX, cX, gX⟩ := X
  simp only [Um.v] at *
  have hlen : gX.length = S.length := by rw [ez]
  rw [hlen] at c5' ⊢
  clear ez hlen
  obtain ⟨u1, u2, _, bX, oX, u3, u4⟩ := U2.out
  simp only at u1 u3 u4
  have eX := EZ.out
  try simp only at eX
  rw [eX] at u1 u3 u4
  have U4 : Hid (∀ i, i < S.length → w2.cell? ⟨bX, oX + i, none⟩ = some (.int .u32 (S.getD i 0 : Nat))) := u4
  unfold maxLen at u2
  clear u4 U2 EZ eX
  generalize S.length = ln at *
  obtain ⟨hs1, hs2⟩ := hs
  obtain rfl := u3 (by omega)
  clear u3
  go_wp2_with fail
  refine c3'.mono ?_
  rintro e w3 ⟨rfl, rfl⟩
  clear c3'
  go_wp2_with fail
  refine c4'.mono ?_
  rintro e w4 ⟨rfl, rfl⟩
  clear c4'
  go_wp2_with fail
  refine c5'.mono ?_
  rintro e w5 ⟨rfl, E5⟩
  have X5 : Hid (Ext w w5) := X2.out.trans E5
  have Y4 : Hid (∀ i, i < ln → w5.cell? ⟨bX, oX + i, none⟩ = some (.int .u32 (S.getD i 0 : Nat))) := fun i hi => E5.cell (U4.out i hi)
  clear c5' E5 U4
  have hs3 : ¬ (ln : Int) < 2 := by omega
  have hs4 : ¬ (ln : Int) > 64 := by omega
  go_wp2
  go_loopg [13, 85] ln (fun gg s13 s85 wr => ∃ k : Nat, k ≤ ln ∧ ln - k ≤ gg ∧ s85 = .int .i64 k ∧ s13 = .int .i64 (F k : Nat) ∧ wr = w5)
  case atStart => exact ⟨0, Nat.zero_le _, by omega, rfl, by rw [F0.out], rfl⟩
  case round =>
    obtain ⟨k, hk, hg, rfl, rfl, rfl⟩ := hrel
    by_cases hlt : k < ln
    · have hltz : (k : Int) < (ln : Int) := by omega
      have e1 := Y4.out k hlt
      have y1 := LW.out k hlt
      have nx := FN.out k
      have f1 := FL.out k
      have c6 : Hid (∀ W, Calls Try.prog 11 #[.int .u32 (S.getD k 0 : Nat)] W fun e w' => e = .returned (.int .i64 (pop (S.getD k 0) : Nat)) ∧ w' = W) := fun W => size_any (S.getD k 0) (by omega) W
      have p1 : pop (S.getD k 0) ≤ 32 := popN_le 32 _
      clear FN F0 FL LW Y4
      generalize pop (S.getD k 0) = P at *
      generalize S.getD k 0 = q at *
      by_cases hq : q = 0
      · rw [if_neg (fun h => h.1 hq)] at nx
        have NX : Hid (F (k + 1) = F k) := nx
        subst hq
        clear nx c6
        generalize F k = A at *
        go_wp2
        go_roundg (ln - (k + 1))
        case measure => omega
        case rel => exact ⟨k + 1, by omega, by omega, by go_num, by rw [NX.out], rfl⟩
      · have hqz : ((q : Int) != 0) = true := by rw [bne_iff_ne]; omega
        by_cases hp : P < F k
        · rw [if_pos ⟨hq, hp⟩] at nx
          have NX : Hid (F (k + 1) = P) := nx
          have hpz : (P : Int) < (F k : Nat) := by omega
          clear nx
          generalize F k = A at *
          go_wp2_with (go_at_call 11; refine (c6.out _).mono ?_; rintro e w9 ⟨rfl, rfl⟩)
          go_roundg (ln - (k + 1))
          case measure => omega
          case rel => exact ⟨k + 1, by omega, by omega, by go_num, by rw [NX.out], rfl⟩
        · rw [if_neg (fun h => hp h.2)] at nx
          have NX : Hid (F (k + 1) = F k) := nx
          have hpz : ¬ (P : Int) < (F k : Nat) := by omega
          clear nx
          generalize F k = A at *
          go_wp2_with (go_at_call 11; refine (c6.out _).mono ?_; rintro e w9 ⟨rfl, rfl⟩)
          go_roundg (ln - (k + 1))
          case measure => omega
          case rel => exact ⟨k + 1, by omega, by omega, by go_num, by rw [NX.out], rfl⟩
    · obtain rfl : ln = k := by omega
      have hltz : ¬ (ln : Int) < (ln : Int) := by omega
      clear FN F0 FL LW Y4
      generalize F ln = A at *
      go_wp2
      go_ret
      exact ⟨ret_bool (by first | rfl | simp), X5.out⟩

theorem spanLeast_formfew (n : Nat) (hn : n ≤ 12) (x : Um) (hl : x.z.length ≤ 8) (hb : ∀ y ∈ x.z, y < 2 ^ n) (y : Bm) (h : y.l.length ≠ x.z.length) (hs : (spn n x.z).length < 2) (w : World) (hx : Us w x) (hy : Bs w y) :
    Calls Try.prog 4 #[.int .i64 n, x.v, y.v] w fun e w' => e = .returned (.bool true) ∧ Ext w w' := by
  have hml := Nat.le_trans hy.1 hy.2.1
  unfold maxLen at hml
  have c1 := put_form n hn x hl hb y hml h w hx
  have c2 : Hid (∀ W, Ext w W → Calls Try.prog 14 #[.int .i64 n, x.v] W fun e w' => Hid (∃ v, e = .returned (.tuple #[v, .int .i64 0]) ∧ OwnU W w' v (spn n x.z))) := fun W E => span_good n hn x hl hb W (hx.ext E)
  have c3 : Hid (∀ W, Ext w W → Calls Try.prog 10 #[.int .i64 n, x.v] W fun e w' => e = .returned (.bool true) ∧ w' = W) := fun W E => by
    have := rowed_any n x (rows_low hn hb) W (hx.ext E)
    rw [re_good hn hl hb] at this
    exact this
  have LS := spn_lin hb
  have S1 : 1 ≤ (spn n x.z).length := List.length_pos_of_mem LS.zero
  have LOW : ∀ y ∈ spn n x.z, y < 4096 := fun u hu => by
    have h1 := LS.low u hu
    have h2 : 2 ^ n ≤ 2 ^ 12 := Nat.pow_le_pow_right (by omega) hn
    omega
  have c5 : Hid (∀ (X : Um) W, X.z = spn n x.z → Us W X → Calls Try.prog 16 #[.int .i64 n, X.v] W fun e w' => e = .returned (.tuple #[.int .i64 0, .int .i64 5]) ∧ Ext W w') := fun X W e U =>
    least_none n X (by rw [e]; exact fun u hu => by have := LOW u hu; omega) W U (by rw [e]; exact (LS.book hn (by omega)).told) (by rw [e]; exact hs)
  clear hb hx hy LS LOW
  skip
  skip
  generalize spn n x.z = S at *
  obtain ⟨a, c, g⟩ := x
  obtain ⟨ay, cy, l⟩ := y
  simp only [Um.v, Bm.v] at *
  generalize g.length = m at *
  generalize l.length = ml at *
  have hz : ((ml : Int) == (m : Int)) = false := by rw [beq_eq_false_iff_ne]; omega
  go_enter Try.func4, Try.ntmps4
  go_wp2_with fail
  refine c1.mono ?_
  rintro e w1 ⟨rfl, E1⟩
  have X1 : Hid (Ext w w1) := E1
  have c2' := c2.out w1 E1
  clear c1 c2 E1
  go_wp2_with fail
  refine c2'.mono ?_
  intro e w2 h2
  obtain ⟨v, rfl, O⟩ := h2.out
  have X2 : Hid (Ext w w2) := X1.out.trans O.1
  obtain ⟨X, rfl, ez, U⟩ := O.us
  have U2 : Hid (Us w2 X) := U
  have EZ : Hid (X.z = S) := ez
  have c3' := c3.out w2 X2.out
  have c5' := c5.out X w2 ez U
  clear c2' c3 c5 h2 O X1 U
  obtain ⟨aX, cX, gX⟩ := X
  simp only [Um.v] at *
  have hlen : gX.length = S.length := by rw [ez]
  rw [hlen] at c5' ⊢
  clear ez hlen
  generalize S.length = ln at *
  go_wp2_with fail
  refine c3'.mono ?_
  rintro e w3 ⟨rfl, rfl⟩
  clear c3'
  go_wp2_with fail
  refine c5'.mono ?_
  rintro e w5 ⟨rfl, E5⟩
  have X5 : Hid (Ext w w5) := X2.out.trans E5
  clear c5' E5
  have hs' : (ln : Int) < 2 := by omega
  skip
  have hs3 : (ln : Int) > 0 := by omega
  go_wp2
  go_ret
  exact ⟨ret_bool (by simp; omega), X5.out⟩

theorem spanLeast_formmany (n : Nat) (hn : n ≤ 12) (x : Um) (hl : x.z.length ≤ 8) (hb : ∀ y ∈ x.z, y < 2 ^ n) (y : Bm) (h : y.l.length ≠ x.z.length) (hs : 64 < (spn n x.z).length) (w : World) (hx : Us w x) (hy : Bs w y) :
    Calls Try.prog 4 #[.int .i64 n, x.v, y.v] w fun e w' => e = .returned (.bool true) ∧ Ext w w' := by
  have hml := Nat.le_trans hy.1 hy.2.1
  unfold maxLen at hml
  have c1 := put_form n hn x hl hb y hml h w hx
  have c2 : Hid (∀ W, Ext w W → Calls Try.prog 14 #[.int .i64 n, x.v] W fun e w' => Hid (∃ v, e = .returned (.tuple #[v, .int .i64 0]) ∧ OwnU W w' v (spn n x.z))) := fun W E => span_good n hn x hl hb W (hx.ext E)
  have c3 : Hid (∀ W, Ext w W → Calls Try.prog 10 #[.int .i64 n, x.v] W fun e w' => e = .returned (.bool true) ∧ w' = W) := fun W E => by
    have := rowed_any n x (rows_low hn hb) W (hx.ext E)
    rw [re_good hn hl hb] at this
    exact this
  have LS := spn_lin hb
  have S1 : 1 ≤ (spn n x.z).length := List.length_pos_of_mem LS.zero
  have LOW : ∀ y ∈ spn n x.z, y < 4096 := fun u hu => by
    have h1 := LS.low u hu
    have h2 : 2 ^ n ≤ 2 ^ 12 := Nat.pow_le_pow_right (by omega) hn
    omega
  have c5 : Hid (∀ (X : Um) W, X.z = spn n x.z → Us W X → Calls Try.prog 16 #[.int .i64 n, X.v] W fun e w' => e = .returned (.tuple #[.int .i64 0, .int .i64 1]) ∧ Ext W w') := fun X W e U => by
    have b1 : bke n X.z = 1 := by rw [e]; exact bke_out (fun h => by omega)
    have := least_bad n X (by rw [e]; exact fun u hu => by have := LOW u hu; omega) W U (by rw [b1]; decide)
    rw [b1] at this
    exact this
  clear hb hx hy LS LOW
  skip
  skip
  generalize spn n x.z = S at *
  obtain ⟨a, c, g⟩ := x
  obtain ⟨ay, cy, l⟩ := y
  simp only [Um.v, Bm.v] at *
  generalize g.length = m at *
  generalize l.length = ml at *
  have hz : ((ml : Int) == (m : Int)) = false := by rw [beq_eq_false_iff_ne]; omega
  go_enter Try.func4, Try.ntmps4
  go_wp2_with fail
  refine c1.mono ?_
  rintro e w1 ⟨rfl, E1⟩
  have X1 : Hid (Ext w w1) := E1
  have c2' := c2.out w1 E1
  clear c1 c2 E1
  go_wp2_with fail
  refine c2'.mono ?_
  intro e w2 h2
  obtain ⟨v, rfl, O⟩ := h2.out
  have X2 : Hid (Ext w w2) := X1.out.trans O.1
  obtain ⟨X, rfl, ez, U⟩ := O.us
  have U2 : Hid (Us w2 X) := U
  have EZ : Hid (X.z = S) := ez
  have c3' := c3.out w2 X2.out
  have c5' := c5.out X w2 ez U
  clear c2' c3 c5 h2 O X1 U
  obtain ⟨aX, cX, gX⟩ := X
  simp only [Um.v] at *
  have hlen : gX.length = S.length := by rw [ez]
  rw [hlen] at c5' ⊢
  clear ez hlen
  generalize S.length = ln at *
  go_wp2_with fail
  refine c3'.mono ?_
  rintro e w3 ⟨rfl, rfl⟩
  clear c3'
  go_wp2_with fail
  refine c5'.mono ?_
  rintro e w5 ⟨rfl, E5⟩
  have X5 : Hid (Ext w w5) := X2.out.trans E5
  clear c5' E5
  have hs' : (ln : Int) > 64 := by omega
  have hs2 : ¬ (ln : Int) < 2 := by omega
  have hs3 : (ln : Int) > 0 := by omega
  go_wp2
  go_ret
  exact ⟨ret_bool (by simp; omega), X5.out⟩

theorem spanLeast_formfit (n : Nat) (hn : n ≤ 12) (x : Um) (hl : x.z.length ≤ 8) (hb : ∀ y ∈ x.z, y < 2 ^ n) (y : Bm) (h : y.l.length ≠ x.z.length) (hs : 2 ≤ (spn n x.z).length ∧ (spn n x.z).length ≤ 64) (w : World) (hx : Us w x) (hy : Bs w y) :
    Calls Try.prog 4 #[.int .i64 n, x.v, y.v] w fun e w' => e = .returned (.bool true) ∧ Ext w w' := by
  have hml := Nat.le_trans hy.1 hy.2.1
  unfold maxLen at hml
  have c1 := put_form n hn x hl hb y hml h w hx
  have c2 : Hid (∀ W, Ext w W → Calls Try.prog 14 #[.int .i64 n, x.v] W fun e w' => Hid (∃ v, e = .returned (.tuple #[v, .int .i64 0]) ∧ OwnU W w' v (spn n x.z))) := fun W E => span_good n hn x hl hb W (hx.ext E)
  have c3 : Hid (∀ W, Ext w W → Calls Try.prog 10 #[.int .i64 n, x.v] W fun e w' => e = .returned (.bool true) ∧ w' = W) := fun W E => by
    have := rowed_any n x (rows_low hn hb) W (hx.ext E)
    rw [re_good hn hl hb] at this
    exact this
  have LS := spn_lin hb
  have S1 : 1 ≤ (spn n x.z).length := List.length_pos_of_mem LS.zero
  have LOW : ∀ y ∈ spn n x.z, y < 4096 := fun u hu => by
    have h1 := LS.low u hu
    have h2 : 2 ^ n ≤ 2 ^ 12 := Nat.pow_le_pow_right (by omega) hn
    omega
  have c5 : Hid (∀ (X : Um) W, X.z = spn n x.z → Us W X → Calls Try.prog 16 #[.int .i64 n, X.v] W fun e w' => e = .returned (.tuple #[.int .i64 (fw n (spn n x.z) (spn n x.z).length : Nat), .int .i64 0]) ∧ Ext W w') := fun X W e U => by
    have := least_good n X W U (by rw [e]; exact LS.book hn hs.2) (by rw [e]; exact hs.1)
    rw [e, LS.least hn hs.1 hs.2] at this
    exact this
  have FN : Hid (∀ k, fw n (spn n x.z) (k + 1) = if (spn n x.z).getD k 0 ≠ 0 ∧ pop ((spn n x.z).getD k 0) < fw n (spn n x.z) k then pop ((spn n x.z).getD k 0) else fw n (spn n x.z) k) := fun k => rfl
  have F0 : Hid (fw n (spn n x.z) 0 = n) := rfl
  have FL : Hid (∀ k, fw n (spn n x.z) k ≤ n) := fw_le n _
  have LW : Hid (∀ k, k < (spn n x.z).length → (spn n x.z).getD k 0 < 4096) := fun k hk => LOW _ (getD_mem hk)
  clear hb hx hy LS LOW
  skip
  generalize fw n (spn n x.z) = F at *
  generalize spn n x.z = S at *
  obtain ⟨a, c, g⟩ := x
  obtain ⟨ay, cy, l⟩ := y
  simp only [Um.v, Bm.v] at *
  generalize g.length = m at *
  generalize l.length = ml at *
  have hz : ((ml : Int) == (m : Int)) = false := by rw [beq_eq_false_iff_ne]; omega
  go_enter Try.func4, Try.ntmps4
  go_wp2_with fail
  refine c1.mono ?_
  rintro e w1 ⟨rfl, E1⟩
  have X1 : Hid (Ext w w1) := E1
  have c2' := c2.out w1 E1
  clear c1 c2 E1
  go_wp2_with fail
  refine c2'.mono ?_
  intro e w2 h2
  obtain ⟨v, rfl, O⟩ := h2.out
  have X2 : Hid (Ext w w2) := X1.out.trans O.1
  obtain ⟨X, rfl, ez, U⟩ := O.us
  have U2 : Hid (Us w2 X) := U
  have EZ : Hid (X.z = S) := ez
  have c3' := c3.out w2 X2.out
  have c5' := c5.out X w2 ez U
  clear c2' c3 c5 h2 O X1 U
  obtain ⟨aX, cX, gX⟩ := X
  simp only [Um.v] at *
  have hlen : gX.length = S.length := by rw [ez]
  rw [hlen] at c5' ⊢
  clear ez hlen
  obtain ⟨u1, u2, _, bX, oX, u3, u4⟩ := U2.out
  simp only at u1 u3 u4
  have eX := EZ.out
  try simp only at eX
  rw [eX] at u1 u3 u4
  have U4 : Hid (∀ i, i < S.length → w2.cell? ⟨bX, oX + i, none⟩ = some (.int .u32 (S.getD i 0 : Nat))) := u4
  unfold maxLen at u2
  clear u4 U2 EZ eX
  generalize S.length = ln at *
  obtain ⟨hs1, hs2⟩ := hs
  obtain rfl := u3 (by omega)
  clear u3
  go_wp2_with fail
  refine c3'.mono ?_
  rintro e w3 ⟨rfl, rfl⟩
  clear c3'
  go_wp2_with fail
  refine c5'.mono ?_
  rintro e w5 ⟨rfl, E5⟩
  have X5 : Hid (Ext w w5) := X2.out.trans E5
  have Y4 : Hid (∀ i, i < ln → w5.cell? ⟨bX, oX + i, none⟩ = some (.int .u32 (S.getD i 0 : Nat))) := fun i hi => E5.cell (U4.out i hi)
  clear c5' E5 U4
  have hs3 : ¬ (ln : Int) < 2 := by omega
  have hs4 : ¬ (ln : Int) > 64 := by omega
  go_wp2
  go_loopg [13, 85] ln (fun gg s13 s85 wr => ∃ k : Nat, k ≤ ln ∧ ln - k ≤ gg ∧ s85 = .int .i64 k ∧ s13 = .int .i64 (F k : Nat) ∧ wr = w5)
  case atStart => exact ⟨0, Nat.zero_le _, by omega, rfl, by rw [F0.out], rfl⟩
  case round =>
    obtain ⟨k, hk, hg, rfl, rfl, rfl⟩ := hrel
    by_cases hlt : k < ln
    · have hltz : (k : Int) < (ln : Int) := by omega
      have e1 := Y4.out k hlt
      have y1 := LW.out k hlt
      have nx := FN.out k
      have f1 := FL.out k
      have c6 : Hid (∀ W, Calls Try.prog 11 #[.int .u32 (S.getD k 0 : Nat)] W fun e w' => e = .returned (.int .i64 (pop (S.getD k 0) : Nat)) ∧ w' = W) := fun W => size_any (S.getD k 0) (by omega) W
      have p1 : pop (S.getD k 0) ≤ 32 := popN_le 32 _
      clear FN F0 FL LW Y4
      generalize pop (S.getD k 0) = P at *
      generalize S.getD k 0 = q at *
      by_cases hq : q = 0
      · rw [if_neg (fun h => h.1 hq)] at nx
        have NX : Hid (F (k + 1) = F k) := nx
        subst hq
        clear nx c6
        generalize F k = A at *
        go_wp2
        go_roundg (ln - (k + 1))
        case measure => omega
        case rel => exact ⟨k + 1, by omega, by omega, by go_num, by rw [NX.out], rfl⟩
      · have hqz : ((q : Int) != 0) = true := by rw [bne_iff_ne]; omega
        by_cases hp : P < F k
        · rw [if_pos ⟨hq, hp⟩] at nx
          have NX : Hid (F (k + 1) = P) := nx
          have hpz : (P : Int) < (F k : Nat) := by omega
          clear nx
          generalize F k = A at *
          go_wp2_with (go_at_call 11; refine (c6.out _).mono ?_; rintro e w9 ⟨rfl, rfl⟩)
          go_roundg (ln - (k + 1))
          case measure => omega
          case rel => exact ⟨k + 1, by omega, by omega, by go_num, by rw [NX.out], rfl⟩
        · rw [if_neg (fun h => hp h.2)] at nx
          have NX : Hid (F (k + 1) = F k) := nx
          have hpz : ¬ (P : Int) < (F k : Nat) := by omega
          clear nx
          generalize F k = A at *
          go_wp2_with (go_at_call 11; refine (c6.out _).mono ?_; rintro e w9 ⟨rfl, rfl⟩)
          go_roundg (ln - (k + 1))
          case measure => omega
          case rel => exact ⟨k + 1, by omega, by omega, by go_num, by rw [NX.out], rfl⟩
    · obtain rfl : ln = k := by omega
      have hltz : ¬ (ln : Int) < (ln : Int) := by omega
      clear FN F0 FL LW Y4
      generalize F ln = A at *
      go_wp2
      go_ret
      exact ⟨ret_bool (by first | rfl | simp), X5.out⟩

theorem spanLeast_walk (n : Int) (x : Um) (hb : ∀ y ∈ x.z, y < 4294967296) (y : Bm) (w : World) (hx : Us w x) (hy : Bs w y) :
    Calls Try.prog 4 #[.int .i64 n, x.v, y.v] w fun e w' => e = .returned (.bool true) ∧ Ext w w' := by
  by_cases h : re n x.z = 0
  · obtain ⟨m, rfl, h1, h2, h3⟩ := re_zero h
    by_cases hf : y.l.length = x.z.length
    · by_cases s1 : (spn m x.z).length < 2
      · exact spanLeast_okfew m h1 x h2 h3 y hf s1 w hx hy
      · by_cases s2 : 64 < (spn m x.z).length
        · exact spanLeast_okmany m h1 x h2 h3 y hf s2 w hx hy
        · exact spanLeast_okfit m h1 x h2 h3 y hf ⟨by omega, by omega⟩ w hx hy
    · by_cases s1 : (spn m x.z).length < 2
      · exact spanLeast_formfew m h1 x h2 h3 y hf s1 w hx hy
      · by_cases s2 : 64 < (spn m x.z).length
        · exact spanLeast_formmany m h1 x h2 h3 y hf s2 w hx hy
        · exact spanLeast_formfit m h1 x h2 h3 y hf ⟨by omega, by omega⟩ w hx hy
  · exact spanLeast_bad n x hb h y w hx

set_option maxRecDepth 100000 in
theorem spanLeast_lifted (os : Os) (started : os.Started) (H : Type) (enc : TypeId × Value → H) :
    ReturnsInHanded {} Try.checked os 4 .any (Rows.spanLeastSpec.pre6 enc Try.prog Try.f4 Rows.spanLeastRow.domain false) (Rows.spanLeastSpec.post enc Try.prog Try.f4 false true false false) := by
  refine returnsInHanded_of_change (C := Try.checked) own started (by kernel_rfl) Try.func4
    (ChangeSpec.witness6 (enc := enc) (C := Try.checked) false ⟨#[], #[.int .i64 0, .slice none 0 0, .slice none 0 0], []⟩ 8 (by kernel_rfl) (by kernel_rfl) (by kernel_rfl) (by kernel_rfl)) ?_
  intro W base args ds gs before hval0 hW _ _
  have hval : ∀ (j : Nat) t v, Try.f4.params[j]? = some t → args[j]? = some v → Value.okWide Try.prog W .any base t v := hval0
  have hW' := hW
  obtain ⟨p, q, hA0, hV, rfl, hfz, hnd⟩ := hW
  have hA : DataW.TrodAll enc Try.prog W 0 (fun _ => true) true Try.f4.params.toList args.toList ds p := hA0
  rw [Try.params4] at hA hval
  obtain ⟨v0, vs0, d0, ds0, p0, q0, hargs, rfl, rfl, h0, r0⟩ := trodAll_cons hA
  obtain ⟨v1, vs1, d1, ds1, p1, q1, rfl, rfl, rfl, h1, r1⟩ := trodAll_cons r0
  obtain ⟨v2, vs2, d2, ds2, p2, q2, rfl, rfl, rfl, h2, r2⟩ := trodAll_cons r1
  obtain ⟨rfl, rfl, rfl⟩ := trodAll_nil r2
  obtain rfl : args = #[v0, v1, v2] := by cases args; simp_all
  obtain ⟨rfl, rfl⟩ := trodVars_none hV
  have lt0 : ∀ x ∈ p0, x.block < W.heap.size := by obtain ⟨m, hm⟩ := h0; exact DataW.trod_lt m _ _ _ hm
  obtain ⟨x0, rfl, -, -, wf0⟩ := open_int Try.underlying3 (hval 0 3 v0 rfl rfl) h0
  have lt1 : ∀ x ∈ p1, x.block < W.heap.size := by obtain ⟨m, hm⟩ := h1; exact DataW.trod_lt m _ _ _ hm
  obtain ⟨x1, rfl, w1, b1⟩ := open_us (hval 1 22 v1 rfl rfl) h1
  have lt2 : ∀ x ∈ p2, x.block < W.heap.size := by obtain ⟨m, hm⟩ := h2; exact DataW.trod_lt m _ _ _ hm
  obtain ⟨x2, rfl, w2⟩ := open_bits (hval 2 33 v2 rfl rfl) h2
  clear hA0 hval0
  refine (spanLeast_walk x0 x1 b1 x2 W w1 w2).mono fun e W' ⟨he, bel⟩ => ?_
  subst he
  exact ⟨_, rfl, _, _, _, [], _, [], hW', trodAll_mk1 (shut_bool Try.underlying4 _), (trodAll_cons_mk (Below.trod laidOut (by kernel_rfl) (of_decide_eq_true (by kernel_rfl)) h0 bel lt0) (trodAll_cons_mk (Below.trod laidOut (by kernel_rfl) (of_decide_eq_true (by kernel_rfl)) h1 bel lt1) (trodAll_cons_mk (Below.trod laidOut (by kernel_rfl) (of_decide_eq_true (by kernel_rfl)) h2 bel lt2) trodAll_mk0))), rfl, bel.frame _, fun h => by cases h⟩

theorem spanLeast_holds : Rows.SpanLeastSaid :=
  OpenClaim.holds_of_wide 4 Try.f4 rfl rfl rfl rfl rfl rfl rfl ⟨rfl, rfl, rfl, rfl, rfl⟩ rfl rfl rfl rfl rfl (by kernel_rfl) Try.func4 (by kernel_rfl)
    (of_decide_eq_true (by kernel_rfl)) (by unfold Func.isWrapper; rw [if_neg (of_decide_eq_false (by kernel_rfl))]; exact ⟨rfl, rfl⟩)
    (fun os started H enc _ => spanLeast_lifted os started H enc)

#print axioms spanLeast_holds

end Go.Proofs.Ytdfjjjcaibadoab
