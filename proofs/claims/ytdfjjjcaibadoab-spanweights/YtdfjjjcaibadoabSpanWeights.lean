/-
  MacWilliams: for any rows how many duals have how many bits is told by how many sums have: SpanWeights returns true for every number and every list of words, and changes nothing.
-/
import Derived.Test.YtdfjjjcaibadoabOpu
import Derived.Test.YtdfjjjcaibadoabWe
import Derived.Test.YtdfjjjcaibadoabFb
import Derived.Test.YtdfjjjcaibadoabKr
namespace Go.Proofs.Ytdfjjjcaibadoab
open Go.ChangeShapes Go.WideShapes Go.ChangeAt Go.RowKit Go.Deep
set_option linter.unusedVariables false

theorem spanWeights_bad (n : Int) (x : Um) (hb : ∀ y ∈ x.z, y < 4294967296) (h : re n x.z ≠ 0) (w : World) (hx : Us w x) :
    Calls Try.prog 3 #[.int .i64 n, x.v] w fun e w' => e = .returned (.bool true) ∧ Ext w w' := by
  have c1 := weights_bad n x hb h w hx
  have c2 : Hid (∀ W, Ext w W → Calls Try.prog 9 #[.int .i64 n, x.v] W fun e w' => e = .returned (.tuple #[.slice none 0 0, .int .i64 (re n x.z)]) ∧ Ext W w') := fun W E => dual_bad n x hb h W (hx.ext E)
  have c3 : Hid (∀ W, Ext w W → Calls Try.prog 10 #[.int .i64 n, x.v] W fun e w' => e = .returned (.bool false) ∧ w' = W) := fun W E => by
    have := rowed_any n x hb W (hx.ext E)
    rw [show (re n x.z == 0) = false by rw [beq_eq_false_iff_ne]; exact h] at this
    exact this
  have hz : (re n x.z != 0) = true := by rw [bne_iff_ne]; exact h
  clear h hb hx
  generalize re n x.z = R at *
  obtain ⟨a, c, g⟩ := x
  simp only [Um.v] at *
  generalize g.length = m at *
  go_enter Try.func3, Try.ntmps3
  go_wp2_with fail
  refine c1.mono ?_
  rintro e w1 ⟨rfl, E1⟩
  have X1 : Aside (Ext w w1) := E1
  have c2' := c2.out w1 E1
  clear c1 c2 E1
  go_wp2_with fail
  refine c2'.mono ?_
  rintro e w2 ⟨rfl, E2⟩
  have X2 : Aside (Ext w w2) := X1.out.trans E2
  have c3' := c3.out w2 X2.out
  clear c2' c3 E2 X1
  go_wp2_with fail
  refine c3'.mono ?_
  rintro e w3 ⟨rfl, rfl⟩
  clear c3'
  go_wp2
  go_ret
  exact ⟨ret_bool (by first | rfl | simp [hz]), X2.out⟩

/-- The sum so far of what MacWilliams' identity adds up. -/
def mw (n : Nat) (S : List Nat) (k j : Nat) : Int := su (List.range j) (fun i => (wt S i : Nat) * kr n k i)
theorem mw_succ (n : Nat) (S : List Nat) (k j : Nat) : mw n S k (j + 1) = mw n S k j + (wt S j : Nat) * kr n k j := by
  unfold mw
  rw [List.range_succ, su_app, su_cons, su_nil]
  omega
theorem kr_abs {n : Nat} (hn : n ≤ 12) (k j : Nat) : -4096 ≤ kr n k j ∧ kr n k j ≤ 4096 := by
  have h := kw_abs (2 ^ j - 1) k (2 ^ n)
  have hM : 2 ^ n ≤ 2 ^ 12 := Nat.pow_le_pow_right (by omega) hn
  unfold kr
  omega
theorem mul_abs {a : Nat} {b : Int} (ha : a ≤ 4096) (hb : -4096 ≤ b ∧ b ≤ 4096) : -16777216 ≤ (a : Int) * b ∧ (a : Int) * b ≤ 16777216 := by
  constructor
  · have h1 : (a : Int) * (-4096) ≤ (a : Int) * b := Int.mul_le_mul_of_nonneg_left hb.1 (by omega)
    omega
  · have h1 : (a : Int) * b ≤ (a : Int) * 4096 := Int.mul_le_mul_of_nonneg_left hb.2 (by omega)
    omega
theorem mw_abs {n : Nat} (hn : n ≤ 12) {S : List Nat} (hS : S.length ≤ 4096) (k : Nat) : ∀ j : Nat, -(16777216 * (j : Int)) ≤ mw n S k j ∧ mw n S k j ≤ 16777216 * (j : Int)
  | 0 => by
    have e : mw n S k 0 = 0 := rfl
    rw [e]; omega
  | j + 1 => by
    have h := mw_abs hn hS k j
    have h1 := wt_le S j
    have h2 := mul_abs (a := wt S j) (by omega) (kr_abs hn k j)
    rw [mw_succ]
    omega
/-- How many have fewer than k bits. -/
def al (S : List Nat) (k : Nat) : Int := su (List.range k) (fun i => (wt S i : Nat))
theorem al_succ (S : List Nat) (k : Nat) : al S (k + 1) = al S k + (wt S k : Nat) := by
  unfold al
  rw [List.range_succ, su_app, su_cons, su_nil]
  omega
theorem al_abs {S : List Nat} (hS : S.length ≤ 4096) : ∀ k : Nat, 0 ≤ al S k ∧ al S k ≤ 4096 * (k : Int)
  | 0 => by
    have e : al S 0 = 0 := rfl
    rw [e]; omega
  | k + 1 => by
    have h := al_abs hS k
    have h1 := wt_le S k
    rw [al_succ]
    omega

set_option maxRecDepth 100000 in
set_option maxHeartbeats 4000000 in
theorem spanWeights_good (n : Nat) (hn : n ≤ 12) (x : Um) (hl : x.z.length ≤ 8) (hb : ∀ y ∈ x.z, y < 2 ^ n) (w : World) (hx : Us w x) :
    Calls Try.prog 3 #[.int .i64 n, x.v] w fun e w' => e = .returned (.bool true) ∧ Ext w w' := by
  have c1 := weights_good n hn x hl hb w hx
  have c2 : Hid (∀ W, Ext w W → Calls Try.prog 9 #[.int .i64 n, x.v] W fun e w' => Hid (∃ v, e = .returned (.tuple #[v, .int .i64 0]) ∧ OwnU W w' v (dl n x.z))) := fun W E => dual_good n hn x hl hb W (hx.ext E)
  have c3 : Hid (∀ W, Ext w W → Calls Try.prog 10 #[.int .i64 n, x.v] W fun e w' => e = .returned (.bool true) ∧ w' = W) := fun W E => by
    have := rowed_any n x (rows_low hn hb) W (hx.ext E)
    rw [re_good hn hl hb] at this
    exact this
  have DE := dl_rows hb
  rw [DE] at c2
  have LS := spn_lin hb
  have LD := dl_lin n (spn n x.z)
  have SP := List.length_pos_of_mem LD.zero
  have hM : 2 ^ n ≤ 2 ^ 12 := Nat.pow_le_pow_right (by omega) hn
  have SF : (dl n (spn n x.z)).length ≤ 4096 := by
    have := List.length_filter_le (evn (spn n x.z)) (List.range (2 ^ n))
    rw [List.length_range] at this
    exact Nat.le_trans this hM
  have SS : (spn n x.z).length ≤ 4096 := by
    have := spn_few n x.z
    omega
  have S1 : 1 ≤ (spn n x.z).length := List.length_pos_of_mem LS.zero
  have LOW : Hid (∀ k, k < (dl n (spn n x.z)).length → (dl n (spn n x.z)).getD k 0 < 2 ^ n) := fun k hk => by
    rw [getD_get hk]
    exact LD.low _ (List.getElem_mem hk)
  have POP : Hid (∀ y, y < 2 ^ n → pop y ≤ n) := fun y hy => pop_le hy (by omega)
  have MACW : Hid (∀ k, mw n (spn n x.z) k (n + 1) = ((spn n x.z).length : Int) * (wt (dl n (spn n x.z)) k : Nat)) := fun k => LS.macwilliams (by omega) k
  have ALL : Hid (al (spn n x.z) (n + 1) = ((spn n x.z).length : Int)) := wt_all (fun u hu => pop_le (LS.low u hu) (by omega))
  have MA : Hid (∀ (k j : Nat), -(16777216 * (j : Int)) ≤ mw n (spn n x.z) k j ∧ mw n (spn n x.z) k j ≤ 16777216 * (j : Int)) := fun k j => mw_abs hn SS k j
  have AA : Hid (∀ k : Nat, 0 ≤ al (spn n x.z) k ∧ al (spn n x.z) k ≤ 4096 * (k : Int)) := al_abs SS
  have KRW : Hid (∀ (k j : Nat) W, k ≤ 12 → j ≤ n → Calls Try.prog 12 #[.int .i64 n, .int .i64 k, .int .i64 j] W fun e w' => e = .returned (.int .i64 (kr n k j)) ∧ w' = W) := fun k j W hk hj => kraw_any n k j hn hk hj W
  obtain ⟨N, hN⟩ : ∃ N, n + 1 = N := ⟨_, rfl⟩
  have Nz : (n : Int) + 1 = (N : Int) := by omega
  have hmk := run_make_row' (P := Try.prog) 23 2 (.int .i64 0) 8 Try.underlying23 info2 rfl .i64 .i64 N (by omega) (by omega)
  clear hb hx DE LS LD
  unfold WO at c1
  generalize dl n (spn n x.z) = ys at *
  generalize spn n x.z = S at *
  obtain ⟨a, c, g⟩ := x
  simp only [Um.v] at *
  generalize g.length = m at *
  rw [hN] at c1
  have HN : Hid (n + 1 = N) := hN
  have HN12 : N ≤ 13 := by omega
  clear hN
  go_enter Try.func3, Try.ntmps3
  go_wp2_with fail
  refine c1.mono ?_
  intro e w1 h1
  obtain ⟨B, rfl, hB, RB0, EB⟩ := h1.out
  have RB1 : Hid (Row w1 B 2 (wc S n)) := RB0
  have X1 : Hid (Ext w w1) := EB
  have c2' := c2.out w1 EB
  clear c1 c2 h1 RB0 EB hB
  go_wp2_with fail
  refine c2'.mono ?_
  intro e w2 h2
  obtain ⟨v, rfl, O⟩ := h2.out
  obtain ⟨G, cap, r, rfl, hG, hcm, hcl, hrow⟩ := O.row SP
  have RG0 : Hid (Row w2 G 30 (uv ys ++ r)) := hrow
  have RB2 : Hid (Row w2 B 2 (wc S n)) := RB1.out.ext O.1
  have X2 : Hid (Ext w w2) := X1.out.trans O.1
  have c3' := c3.out w2 X2.out
  clear c2' c3 h2 O hG hcm hcl hrow RB1 X1
  obtain ⟨l, hl2⟩ : ∃ l, ys.length = l := ⟨_, rfl⟩
  rw [hl2] at SP SF LOW ⊢
  have HL : Hid (ys.length = l) := hl2
  clear hl2
  have Nn : ((N : Int) != (N : Int)) = false := by simp
  have R0 : Hid (Row (w2.alloc (.cells (madeCells #[.int .i64 0] N) 2)) w2.heap.size 2 (wc [] n)) := by
    show Row _ _ _ _
    rw [← HN.out]
    exact Row.madeF w2 2 (.int .i64 0) (n + 1) _ (fun i _ => by simp [wt_nil])
  have EX : Hid (Ext w2 (w2.alloc (.cells (madeCells #[.int .i64 0] N) 2))) := (Ext.refl w2).alloc _
  go_wp2_with fail
  refine c3'.mono ?_
  rintro e w3 ⟨rfl, rfl⟩
  clear c3'
  generalize hW : w3.alloc (.cells (madeCells #[.int .i64 0] N) 2) = W0 at *
  have RG : Hid (Row W0 G 30 (uv ys ++ r)) := RG0.out.ext EX.out
  have RB : Hid (Row W0 B 2 (wc S n)) := RB2.out.ext EX.out
  have E2 : Hid (Ext w W0) := X2.out.trans EX.out
  have NE : Hid (G ≠ w3.heap.size) := by have := RG0.out.lt; show _ ≠ _; omega
  have NB : Hid (B ≠ w3.heap.size) := by have := RB2.out.lt; show _ ≠ _; omega
  have LE : Hid (w.heap.size ≤ w3.heap.size) := X2.out.size
  have NXT : Hid (∀ (W : World) (k : Nat), k < l → Row W w3.heap.size 2 (wc (ys.take k) n) → Row (W.setCell ⟨w3.heap.size, pop (ys.getD k 0), none⟩ (.int .i64 ((wt (ys.take k) (pop (ys.getD k 0)) : Nat) + 1))) w3.heap.size 2 (wc (ys.take (k + 1)) n)) := fun W k hk h => by
    refine h.setF _ _ (fun i hi => ?_)
    rw [List.take_succ_eq_append_getElem (by rw [HL.out]; exact hk), wt_snoc, ← getD_get]
    by_cases hi2 : i = pop (ys.getD k 0)
    · rw [if_pos hi2, if_pos hi2.symm, hi2]; simp
    · rw [if_neg hi2, if_neg (fun h => hi2 h.symm)]; rfl
  clear RG0 RB2 X2 EX
  go_wp2
  clear hmk hW
  go_loopg [58] l (fun gg s58 wr => ∃ k : Nat, k ≤ l ∧ l - k ≤ gg ∧ s58 = .int .i64 k ∧ Aside (KB w3.heap.size W0 wr) ∧ Aside (Row wr w3.heap.size 2 (wc (ys.take k) n)))
  case atStart => exact ⟨0, Nat.zero_le _, by omega, rfl, KB.refl _ _, by show Row _ _ _ _; rw [List.take_zero]; exact R0.out⟩
  case round =>
    clear R0
    obtain ⟨k, hk, hg, rfl, KW, RW⟩ := hrel
    by_cases hlt : k < l
    · have hltz : (k : Int) < (l : Int) := by omega
      have e1 : wr.cell? ⟨G, k, none⟩ = some (.int .u32 (ys.getD k 0 : Nat)) := by
        have h0 : k < ys.length := by rw [HL.out]; exact hlt
        have := (Row.kb RG.out KW.out NE.out).cell k (by simp; omega)
        rw [this, List.getElem_append_left (by simpa using h0), getD_get h0]
        simp
      have y1 := LOW.out k hlt
      have y2 := POP.out _ y1
      have c1 : Hid (∀ W, Calls Try.prog 11 #[.int .u32 (ys.getD k 0 : Nat)] W fun e w' => e = .returned (.int .i64 (pop (ys.getD k 0) : Nat)) ∧ w' = W) := fun W => size_any (ys.getD k 0) (by omega) W
      have t1 : wt (ys.take k) (pop (ys.getD k 0)) ≤ 4096 := by
        have h1 := wt_le (ys.take k) (pop (ys.getD k 0))
        have h2 := List.length_take_le k ys
        omega
      have R4' : Hid (Row (wr.setCell ⟨w3.heap.size, pop (ys.getD k 0), none⟩ (.int .i64 ((wt (ys.take k) (pop (ys.getD k 0)) : Nat) + 1))) w3.heap.size 2 (wc (ys.take (k + 1)) n)) := NXT.out wr k hlt RW.out
      have e4 : wr.cell? ⟨w3.heap.size, pop (ys.getD k 0), none⟩ = some (.int .i64 (wt (ys.take k) (pop (ys.getD k 0)) : Nat)) := RW.out.cellF _ (by omega)
      have f4 := RW.out.fr (pop (ys.getD k 0))
      have pz : (pop (ys.getD k 0) : Int) < (N : Int) := by have := HN.out; omega
      have K4 : Hid (KB w3.heap.size W0 (wr.setCell ⟨w3.heap.size, pop (ys.getD k 0), none⟩ (.int .i64 ((wt (ys.take k) (pop (ys.getD k 0)) : Nat) + 1)))) := KW.out.setCell _
      clear NXT LOW POP KW RW MACW ALL MA AA KRW
      generalize wt (ys.take k) (pop (ys.getD k 0)) = A at *
      generalize pop (ys.getD k 0) = P at *
      generalize ys.getD k 0 = y at *
      go_wp2_with (go_at_call 11; refine (c1.out _).mono ?_; rintro e w9 ⟨rfl, rfl⟩)
      go_roundg (l - (k + 1))
      case measure => omega
      case rel => exact ⟨k + 1, by omega, by omega, by go_num, K4.out, R4'.out⟩
    · obtain rfl : l = k := by omega
      have hltz : ¬ (l : Int) < (l : Int) := by omega
      have RF : Hid (Row wr w3.heap.size 2 (wc ys n)) := by
        have := RW.out
        rw [List.take_of_length_le (by rw [HL.out]; exact Nat.le_refl _)] at this
        exact this
      have EF : Hid (Ext w wr) := KW.out.ext E2.out LE.out
      have RS : Hid (Row wr B 2 (wc S n)) := Row.kb RB.out KW.out NB.out
      clear RW KW NXT LOW POP RG RB E2 NE NB
      obtain ⟨wo, rfl⟩ : ∃ wo, wo = wr := ⟨_, rfl⟩
      go_wp2
      go_loopg [12, 75] N (fun gg s12 s75 wi => ∃ k : Nat, k ≤ N ∧ N - k ≤ gg ∧ s75 = .int .i64 k ∧ s12 = .int .i64 (al S k) ∧ wi = wo)
      case atStart => exact ⟨0, Nat.zero_le _, by omega, rfl, rfl, rfl⟩
      case round =>
        obtain ⟨k, hk, hg, rfl, rfl, rfl⟩ := hrel
        by_cases hlt : k < N
        · have hltz : (k : Int) < (N : Int) := by omega
          have e1 := RS.out.cellF k (by have := HN.out; omega)
          have a1 := AA.out k
          have a2 := AA.out (k + 1)
          have NX : Hid (al S (k + 1) = al S k + (wt S k : Nat)) := al_succ S k
          have nx := NX.out
          have w1' := wt_le S k
          clear MACW ALL MA AA KRW
          rw [nx] at a2
          clear nx
          generalize wt S k = A at *
          generalize al S k = D at *
          go_wp2
          go_roundg (N - (k + 1))
          case measure => omega
          case rel => exact ⟨k + 1, by omega, by omega, by go_num, by rw [NX.out], rfl⟩
        · obtain rfl : N = k := by omega
          have hltz : ¬ (N : Int) < (N : Int) := by omega
          have AL : Hid (al S N = (S.length : Int)) := by show _ = _; rw [← HN.out]; exact ALL.out
          rw [AL.out]
          clear AL ALL AA
          obtain ⟨Sl, hSl⟩ : ∃ Sl, S.length = Sl := ⟨_, rfl⟩
          have MAC : Hid (∀ k, mw n S k N = (Sl : Int) * (wt ys k : Nat)) := fun k => by rw [← hSl, ← HN.out]; exact MACW.out k
          have WS : Hid (∀ k, wt S k ≤ 4096) := fun k => Nat.le_trans (wt_le S k) SS
          rw [hSl] at SS S1 ⊢
          clear MACW hSl
          have WY : Hid (∀ k, wt ys k ≤ 4096) := fun k => Nat.le_trans (wt_le ys k) (by rw [HL.out]; exact SF)

          have S4 : (Sl : Int) ≤ 4096 := by omega
          have S0 : (1 : Int) ≤ (Sl : Int) := by omega
          clear SS S1 LE
          obtain ⟨wo, rfl⟩ : ∃ wo, wo = wr := ⟨_, rfl⟩
          go_wp2
          go_loopg [15] N (fun gg s15 wr => ∃ k : Nat, k ≤ N ∧ N - k ≤ gg ∧ s15 = .int .i64 k ∧ Qt wo wr)
          case atStart => exact ⟨0, Nat.zero_le _, by omega, rfl, Qt.refl _⟩
          case round =>
            obtain ⟨k, hk, hg, rfl, QW⟩ := hrel
            have QW1 : Hid (Qt wo wr) := QW
            clear QW
            have HN1 := HN.out
            by_cases hlt : k < N
            · have hltz : (k : Int) ≤ (n : Int) := by omega
              have RFk : Hid (Row wr w3.heap.size 2 (wc ys n)) := RF.out.ext (Qt.ext QW1.out)
              have RSk : Hid (Row wr B 2 (wc S n)) := RS.out.ext (Qt.ext QW1.out)
              obtain ⟨wz, rfl⟩ : ∃ wz, wz = wr := ⟨_, rfl⟩
              go_wp2
              go_loopg [16, 17] N (fun gg s16 s17 wr => ∃ j : Nat, j ≤ N ∧ N - j ≤ gg ∧ s17 = .int .i64 j ∧ s16 = .int .i64 (mw n S k j) ∧ Qt wz wr)
              case atStart => exact ⟨0, Nat.zero_le _, by omega, rfl, rfl, Qt.refl _⟩
              case round =>
                obtain ⟨j, hj, hg2, rfl, rfl, QQ⟩ := hrel
                have QQ1 : Hid (Qt wz wr) := QQ
                clear QQ
                by_cases hlt2 : j < N
                · have hltz2 : (j : Int) ≤ (n : Int) := by omega
                  have hltz3 : (j : Int) < (N : Int) := by omega
                  have e1 := (RSk.out.ext (Qt.ext QQ1.out)).cellF j (by omega)
                  have hc : Hid (∀ W, Calls Try.prog 12 #[.int .i64 n, .int .i64 k, .int .i64 j] W fun e w' => e = .returned (.int .i64 (kr n k j)) ∧ w' = W) := fun W => KRW.out k j W (by omega) (by omega)
                  have a1 := MA.out k j
                  have a2 := MA.out k (j + 1)
                  have NX : Hid (mw n S k (j + 1) = mw n S k j + (wt S j : Nat) * kr n k j) := mw_succ n S k j
                  rw [NX.out] at a2
                  have a3 := mul_abs (WS.out j) (kr_abs hn k j)
                  have QN : Hid (∀ q, Qt wz (wr.drewN q)) := fun q => QQ1.out.drewN q
                  clear MAC MA KRW WS WY RFk RSk RF RS
                  obtain ⟨M, hM⟩ : ∃ M, (wt S j : Int) * kr n k j = M := ⟨_, rfl⟩
                  rw [hM] at a2 a3 NX
                  generalize mw n S k j = D at *
                  generalize kr n k j = K at *
                  generalize wt S j = A at *
                  go_wp2
                  go_quiet ((go_at_call 12; exact Calls.quiet_of_same (hc.out _)))
                  go_wp2
                  go_roundg (N - (j + 1))
                  case measure => omega
                  case rel => exact ⟨j + 1, by omega, by omega, by go_num, by rw [NX.out], QN.out _⟩
                · obtain rfl : N = j := by omega
                  have hltz2 : ¬ (N : Int) ≤ (n : Int) := by omega
                  have QN : Hid (Qt wo wr) := QW1.out.trans QQ1.out
                  have e1 := (RFk.out.ext (Qt.ext QQ1.out)).cellF k (by omega)
                  have m1 := MAC.out k
                  have p1 := mul_abs (a := Sl) (b := (wt ys k : Int)) (by omega) (by have := WY.out k; omega)
                  obtain ⟨M, hM⟩ : ∃ M, (Sl : Int) * (wt ys k : Int) = M := ⟨_, rfl⟩
                  rw [m1, hM]
                  rw [hM] at p1
                  have hne : (M != M) = false := by simp
                  clear MAC MA KRW WS WY RFk RSk RF RS m1
                  generalize wt ys k = A at *
                  have hkz : (k : Int) < (N : Int) := by omega
                  go_wp2
                  go_roundg (N - (k + 1))
                  case measure => omega
                  case rel => exact ⟨k + 1, by omega, by omega, by go_num, QN.out⟩
            · obtain rfl : N = k := by omega
              have hltz : ¬ (N : Int) ≤ (n : Int) := by omega
              have EF2 : Hid (Ext w wr) := EF.out.trans (Qt.ext QW1.out)
              clear MAC MA KRW WS WY RF RS
              go_wp2
              go_ret
              exact ⟨ret_bool (by first | rfl | simp [S0]), EF2.out⟩

theorem spanWeights_walk (n : Int) (x : Um) (hb : ∀ y ∈ x.z, y < 4294967296) (w : World) (hx : Us w x) :
    Calls Try.prog 3 #[.int .i64 n, x.v] w fun e w' => e = .returned (.bool true) ∧ Ext w w' := by
  by_cases h : re n x.z = 0
  · obtain ⟨m, rfl, h1, h2, h3⟩ := re_zero h
    exact spanWeights_good m h1 x h2 h3 w hx
  · exact spanWeights_bad n x hb h w hx

set_option maxRecDepth 100000 in
theorem spanWeights_lifted (os : Os) (started : os.Started) (H : Type) (enc : TypeId × Value → H) :
    ReturnsInHanded {} Try.checked os 3 .any (Rows.spanWeightsSpec.pre6 enc Try.prog Try.f3 Rows.spanWeightsRow.domain false) (Rows.spanWeightsSpec.post enc Try.prog Try.f3 false true false false) := by
  refine returnsInHanded_of_change (C := Try.checked) own started (by kernel_rfl) Try.func3
    (ChangeSpec.witness6 (enc := enc) (C := Try.checked) false ⟨#[], #[.int .i64 0, .slice none 0 0], []⟩ 8 (by kernel_rfl) (by kernel_rfl) (by kernel_rfl) (by kernel_rfl)) ?_
  intro W base args ds gs before hval0 hW _ _
  have hval : ∀ (j : Nat) t v, Try.f3.params[j]? = some t → args[j]? = some v → Value.okWide Try.prog W .any base t v := hval0
  have hW' := hW
  obtain ⟨p, q, hA0, hV, rfl, hfz, hnd⟩ := hW
  have hA : DataW.TrodAll enc Try.prog W 0 (fun _ => true) true Try.f3.params.toList args.toList ds p := hA0
  rw [Try.params3] at hA hval
  obtain ⟨v0, vs0, d0, ds0, p0, q0, hargs, rfl, rfl, h0, r0⟩ := trodAll_cons hA
  obtain ⟨v1, vs1, d1, ds1, p1, q1, rfl, rfl, rfl, h1, r1⟩ := trodAll_cons r0
  obtain ⟨rfl, rfl, rfl⟩ := trodAll_nil r1
  obtain rfl : args = #[v0, v1] := by cases args; simp_all
  obtain ⟨rfl, rfl⟩ := trodVars_none hV
  have lt0 : ∀ x ∈ p0, x.block < W.heap.size := by obtain ⟨m, hm⟩ := h0; exact DataW.trod_lt m _ _ _ hm
  obtain ⟨x0, rfl, -, -, wf0⟩ := open_int Try.underlying3 (hval 0 3 v0 rfl rfl) h0
  have lt1 : ∀ x ∈ p1, x.block < W.heap.size := by obtain ⟨m, hm⟩ := h1; exact DataW.trod_lt m _ _ _ hm
  obtain ⟨x1, rfl, w1, b1⟩ := open_us (hval 1 22 v1 rfl rfl) h1
  clear hA0 hval0
  refine (spanWeights_walk x0 x1 b1 W w1).mono fun e W' ⟨he, bel⟩ => ?_
  subst he
  exact ⟨_, rfl, _, _, _, [], _, [], hW', trodAll_mk1 (shut_bool Try.underlying4 _), (trodAll_cons_mk (Below.trod laidOut (by kernel_rfl) (of_decide_eq_true (by kernel_rfl)) h0 bel lt0) (trodAll_cons_mk (Below.trod laidOut (by kernel_rfl) (of_decide_eq_true (by kernel_rfl)) h1 bel lt1) trodAll_mk0)), rfl, bel.frame _, fun h => by cases h⟩

theorem spanWeights_holds : Rows.SpanWeightsSaid :=
  OpenClaim.holds_of_wide 3 Try.f3 rfl rfl rfl rfl rfl rfl rfl ⟨rfl, rfl, rfl, rfl, rfl⟩ rfl rfl rfl rfl rfl (by kernel_rfl) Try.func3 (by kernel_rfl)
    (of_decide_eq_true (by kernel_rfl)) (by unfold Func.isWrapper; rw [if_neg (of_decide_eq_false (by kernel_rfl))]; exact ⟨rfl, rfl⟩)
    (fun os started H enc _ => spanWeights_lifted os started H enc)

#print axioms spanWeights_holds

end Go.Proofs.Ytdfjjjcaibadoab
