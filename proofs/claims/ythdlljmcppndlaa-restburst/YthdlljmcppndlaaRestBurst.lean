/-
  For any polynomial and any bits, some of which, that stand together, no more than its degree, are turned, it is told: RestBurst returns true for every such input, and changes nothing.
-/
import Derived.Test.YthdlljmcppndlaaOpen
import Derived.Test.YthdlljmcppndlaaFac
import Derived.Test.YthdlljmcppndlaaRf
import Derived.Test.YthdlljmcppndlaaEq
import Derived.RegionTactic
import Derived.BigRegion
import Derived.Deep.RegionWith
import Derived.ProofKit
namespace Go.Proofs.Ythdlljmcppndlaa
open Go.ChangeShapes Go.WideShapes Go.ChangeAt Go.RowKit Go.Deep
set_option linter.unusedVariables false

theorem u32_of {x : Int} (h : (Lit.int .u32 x).wf = true) : 0 ≤ x ∧ x < 4294967296 := by
  have b : IntKind.u32.min = 0 ∧ IntKind.u32.max = 4294967295 := by decide
  simp only [Lit.wf, b, Bool.and_eq_true, decide_eq_true_eq] at h
  omega

theorem u8_of {x : Int} (h : (Lit.int .u8 x).wf = true) : 0 ≤ x ∧ x < 256 := by
  have b : IntKind.u8.min = 0 ∧ IntKind.u8.max = 255 := by decide
  simp only [Lit.wf, b, Bool.and_eq_true, decide_eq_true_eq] at h
  omega
theorem rce_G {g n : Nat} (h : G g) (hn : n ≤ 64) : rce g n = 0 := by
  obtain ⟨h0, h1, h2⟩ := h
  rw [Nat.testBit_zero, decide_eq_true_eq] at h0
  exact rce_ok (by omega) (by omega)

/-- Bits, of which the first k from i on are turned where a word has bits. -/
def bx (R : List Bool) (bu i k j : Nat) : Bool := R.getD j false != (decide (i ≤ j) && decide (j < i + k) && bu.testBit (j - i))
theorem bx_zero (R : List Bool) (bu i : Nat) : bl (bx R bu i 0) R.length = R := by
  have h := bl_self R
  have e : bl (bx R bu i 0) R.length = bl (fun j => R.getD j false) R.length := bl_congr (fun j _ => by
    unfold bx
    by_cases h : i ≤ j
    · rw [decide_eq_false (by omega : ¬ j < i + 0)]; simp
    · rw [decide_eq_false h]; simp)
  rw [e]; exact h
theorem bx_next (R : List Bool) (bu i k j : Nat) : bx R bu i (k + 1) j = if j = i + k then (bx R bu i k (i + k) != bu.testBit k) else bx R bu i k j := by
  by_cases e : j = i + k
  · subst e
    rw [if_pos rfl]
    unfold bx
    rw [decide_eq_true (by omega), decide_eq_true (by omega), decide_eq_false (by omega : ¬ i + k < i + k), Nat.add_sub_cancel_left]
    simp
  · rw [if_neg e]
    unfold bx
    rw [show decide (j < i + (k + 1)) = decide (j < i + k) by rw [Bool.eq_iff_iff]; simp; omega]
theorem bl_set' {f h : Nat → Bool} {n k : Nat} {v : Bool} (e : ∀ j, j < n → h j = if j = k then v else f j) : (bl f n).set k v = bl h n := bl_set e
/-- Bits that are turned so leave something, unless they are what they were. -/
theorem bx_rest {g : Nat} (hg : G g) (R : List Bool) (hR : rs g R = 0) (bu i k : Nat) (hi : i ≤ R.length) (hk : k ≤ g.log2) (h0 : rs g (bl (bx R bu i k) R.length) = 0) : bl (bx R bu i k) R.length = R := by
  have e1 : rs g (bl (bx R bu i k) R.length) = rn g (fun j => R.getD j false != (decide (i ≤ j) && decide (j < i + k) && bu.testBit (j - i))) R.length := by
    unfold rs
    rw [bl_len]
    exact rn_congr _ (fun j hj => bl_at _ hj)
  rw [e1, rn_xor, show rn g (fun j => R.getD j false) R.length = 0 from hR, Nat.zero_xor] at h0
  have z := burst hg (fun j => decide (i ≤ j) && decide (j < i + k) && bu.testBit (j - i)) i R.length (fun j hj => by rw [decide_eq_false (by omega)]; rfl) (fun j h1 h2 => by rw [decide_eq_false (by omega : ¬ j < i + k)]; simp) hi h0
  have h := bl_self R
  refine Eq.trans (bl_congr (fun j hj => ?_)) h
  unfold bx
  rw [show (decide (i ≤ j) && decide (j < i + k) && bu.testBit (j - i)) = false from z j hj, Bool.bne_false]

theorem restBurst_bad (g : Nat) (hg : g < 4294967296) (x : Wd) (c : Int) (hc : rce g x.l.length = c) (h : c ≠ 0) (p : Int) (bu : Nat) (w : World) : Calls Try.prog 7 #[.int .u32 g, x.v, .int .u8 p, .int .u32 bu] w fun e w' => e = .returned (.bool true) ∧ Ext w w' := by
  have c1 := Put_bad g hg x c hc h w
  have c2 := refCheck_any g hg x.a x.l.length x.c w
  rw [hc] at c2
  have hb : (c != 0) = true := bne_iff_ne.2 h
  have hb2 : (c == 0) = false := beq_eq_false_iff_ne.2 h
  clear hc
  simp only [Wd.v] at *
  generalize x.l.length = n at *
  go_enter Try.func7, Try.ntmps7
  go_wp2_with fail
  refine c1.mono ?_
  rintro e w1 ⟨rfl, rfl⟩
  clear c1
  go_wp2_with fail
  refine c2.mono ?_
  rintro e w1 ⟨rfl, rfl⟩
  clear c2
  go_wp2
  go_ret
  exact ⟨rfl, Ext.refl _⟩

theorem restBurst_large (g : Nat) (hG : G g) (x : Wd) (h : rce g x.l.length = 0) (hl : 64 < x.l.length + g.log2) (hl2 : x.l.length ≤ 64) (p : Int) (bu : Nat) (w : World) : Calls Try.prog 7 #[.int .u32 g, x.v, .int .u8 p, .int .u32 bu] w fun e w' => e = .returned (.bool true) ∧ Ext w w' := by
  have hg1 : g ≤ 131071 := hG.2.2
  have c1 := Put_large g x hG h hl hl2 w
  have c2 := refCheck_any g (by omega) x.a x.l.length x.c w
  rw [h] at c2
  clear h
  simp only [Wd.v] at *
  generalize x.l.length = n at *
  go_enter Try.func7, Try.ntmps7
  go_wp2_with fail
  refine c1.mono ?_
  rintro e w1 ⟨rfl, rfl⟩
  clear c1
  go_wp2_with fail
  refine c2.mono ?_
  rintro e w1 ⟨rfl, rfl⟩
  clear c2
  go_wp2
  go_ret
  exact ⟨rfl, Ext.refl _⟩

set_option maxHeartbeats 2000000 in
theorem restBurst_good (g : Nat) (hG : G g) (x : Wd) (h : rce g x.l.length = 0) (hl : x.l.length + g.log2 ≤ 64) (p : Nat) (hp : p < 256) (bu : Nat) (hbu : bu < 4294967296) (w : World) (hx : Bits w x) : Calls Try.prog 7 #[.int .u32 g, x.v, .int .u8 p, .int .u32 bu] w fun e w' => e = .returned (.bool true) ∧ Ext w w' := by
  have hg1 : g ≤ 131071 := hG.2.2
  have hd := hG.deg
  have c1 := Put_good g x hG h hl w hx
  have c2 : Hid (∀ W : World, Calls Try.prog 10 #[.int .u32 g, .slice x.a x.l.length x.c] W fun e w' => e = .returned (.int .i64 0) ∧ w' = W) := fun W => by
    have := refCheck_any g (by omega) x.a x.l.length x.c W
    rw [h] at this
    exact this
  have c3 : Hid (∀ W : World, Calls Try.prog 13 #[.int .u32 g] W fun e w' => e = .returned (.int .i64 (g.log2 : Nat)) ∧ w' = W) := fun W => refDegree_any g (by omega) W
  have c4 : Hid (∀ (k : Nat) (W : World), k < 32 → Calls Try.prog 17 #[.int .u32 bu, .int .i64 k] W fun e w' => e = .returned (.bool (bu.testBit k)) ∧ w' = W) := fun k W hk => bit_any bu k hbu hk W
  obtain ⟨R, hR⟩ : ∃ R, pt g x.l = R := ⟨_, rfl⟩
  obtain ⟨M, hM⟩ : ∃ M, x.l.length + g.log2 = M := ⟨_, rfl⟩
  have hRl : R.length = M := by rw [← hR, pt_len, hM]
  have hR0 : rs g R = 0 := by rw [← hR]; exact rs_pt hG _
  rw [hR] at c1
  obtain ⟨i, hi⟩ : ∃ i, p % M = i := ⟨_, rfl⟩
  have hM0 : 0 < M := by omega
  have hiM : i < M := by rw [← hi]; exact Nat.mod_lt _ hM0
  obtain ⟨X, hX⟩ : ∃ X : Nat → Nat → Bool, ∀ k j, X k j = bx R bu i k j := ⟨_, fun _ _ => rfl⟩
  have XR : Hid (∀ k, k ≤ g.log2 → rs g (bl (X k) M) = 0 → bl (X k) M = R) := fun k hk h0 => by
    rw [show X k = bx R bu i k from funext (hX k)] at h0 ⊢
    rw [← hRl] at h0 ⊢
    exact bx_rest hG R hR0 bu i k (by omega) hk h0
  have R0 : Hid (rs g R = 0) := hR0
  have X0 : Hid (R = bl (X 0) M) := by
    show _ = _
    rw [show X 0 = bx R bu i 0 from funext (hX 0), ← hRl, bx_zero]
  have XN : Hid (∀ k, (bl (X k) M).set (i + k) (X k (i + k) != bu.testBit k) = bl (X (k + 1)) M) := fun k => bl_set' (fun j _ => by rw [hX, hX, hX]; exact bx_next R bu i k j)
  have RL : Hid (R.length = M) := hRl
  have GA : Hid (∀ (z : Wd) (W : World), z.l.length = M → rs g z.l = 0 → Bits W z → Calls Try.prog 16 #[.int .u32 g, z.v] W fun e w' => ∃ v, e = .returned (.tuple #[v, .int .i64 0]) ∧ Ext W w') := fun z W hz h0 hb => by
    refine (Get_good g z hG (rce_G hG (by omega)) x.l.length (by omega) (by omega) h0 W hb).mono ?_
    rintro e w' ⟨d, rfl, _, _, E⟩
    exact ⟨_, rfl, E⟩
  have GB : Hid (∀ (z : Wd) (W : World), z.l.length = M → rs g z.l ≠ 0 → Bits W z → Calls Try.prog 16 #[.int .u32 g, z.v] W fun e w' => e = .returned (.tuple #[.slice none 0 0, .int .i64 8]) ∧ w' = W) := fun z W hz h0 hb => Get_sum g z hG (rce_G hG (by omega)) (by omega) (by omega) h0 W hb
  have BQ : Hid (∀ (y z : Wd) (W : World), Bits W y → Bits W z → Calls Try.prog 14 #[y.v, z.v] W fun e w' => e = .returned (.bool (y.l == z.l)) ∧ Qt W w') := fun y z W h h' => bools_any y z W h h'
  have HL : Hid (([] : List Bool).length + R.length ≤ 140737488355328) := by show _ ≤ _; rw [List.length_nil, hRl]; omega
  have t1 : (p : Int).tmod (M : Int) = (i : Int) := by rw [← Int.ofNat_tmod, hi]
  have t2 : (p : Int) % (M : Int) = (i : Int) := by rw [← hi]; exact (Int.natCast_emod p M).symm
  obtain ⟨n, hn⟩ : ∃ n, x.l.length = n := ⟨_, rfl⟩
  have hv : x.v = .slice x.a n x.c := by rw [Wd.v, hn]
  rw [hv] at c1 ⊢
  rw [hn] at c2 hl hM
  have hMl : M ≤ 64 := by omega
  have hnd : (n : Int) + (g.log2 : Nat) = (M : Int) := by omega
  clear hv hx h hn hR hRl hR0 hX hi hM hl hG
  generalize x.a = xa at *
  generalize x.c = xc at *
  generalize g.log2 = d at *
  go_enter Try.func7, Try.ntmps7
  go_wp2_with fail
  refine c1.mono ?_
  rintro e w1 ⟨y, rfl, hy, hb, E1⟩
  have Y1 : Hid (y.l = R ∧ Bits w1 y) := ⟨hy, hb⟩
  have E1' : Hid (Ext w w1) := E1
  have hyl : y.l.length = M := by rw [hy, RL.out]
  obtain ⟨pa, hpa⟩ := Bits.some hb (by omega)
  have hv1 : y.v = .slice (some pa) M y.c := by rw [hpa, hyl]
  have HV1 : Hid (y.v = .slice (some pa) M y.c) := hv1
  have hyc : M ≤ y.c := by have := hb.1; omega
  have hyc2 : y.c ≤ maxLen := hb.2.1
  unfold maxLen at hyc2
  rw [hv1]
  clear c1 hy hb E1 hv1 hyl hpa
  generalize y.c = yc at *
  go_wp2_with fail
  refine (c2.out _).mono ?_
  rintro e w2 ⟨rfl, rfl⟩
  clear c2
  go_wp2_with fail
  refine (c3.out _).mono ?_
  rintro e w2 ⟨rfl, rfl⟩
  have HX1 : Hid (Bits (w2.alloc (.cells #[] 4)) y) := Y1.out.2.ext ((Ext.refl w2).alloc _)
  have HO1 : Hid (OwnB w2 (w2.alloc (.cells #[] 4)) (.slice (some ⟨w2.heap.size, 0, none⟩) 0 0) []) := OwnB.empty w2
  have HL1 : Hid (([] : List Bool).length + y.l.length ≤ 140737488355328) := by show _ ≤ _; rw [Y1.out.1]; exact HL.out
  go_wp2_with (at_builtin; refine wpList_appendBits rfl _ _ rfl w2 _ _ (by rfl) [] HO1.out y (by exact HV1.out.symm) HX1.out HL1.out ?_; clear HX1 HO1 HL1; intro v' w3 B2; rw [List.nil_append, Y1.out.1] at B2; obtain ⟨B, cap, rest, rfl, hg, hcap, hmax, hR1, hrest⟩ := B2.row (by rw [RL.out]; exact hM0); rw [RL.out] at hcap hrest ⊢; have HR1 : Hid (RB w3 B (bl (X 0) M) rest) := (by show RB _ _ _ _; rw [← X0.out]; exact hR1); have HE1 : Hid (Ext w2 w3) := B2.1; have HMx : Hid (cap ≤ maxLen) := hmax; have HRs : Hid (M + rest.length = cap) := hrest; unfold maxLen at hmax; clear B2 hR1 X0 hrest)
  go_loopg [13] (d + 1) (fun gg s13 wr => ∃ k : Nat, k ≤ d ∧ d - k < gg ∧ s13 = .int .i64 k ∧ Aside (Ext w2 wr) ∧ Aside (RB wr B (bl (X k) M) rest))
  case atStart => exact ⟨0, Nat.zero_le _, by omega, rfl, HE1.out, HR1.out⟩
  case round =>
    obtain ⟨k, hk, hgg, rfl, E, Xr⟩ := hrel
    by_cases hlt : k < d ∧ i + k < M
    · obtain ⟨h1, h2⟩ := hlt
      have h1z : (k : Int) < (d : Int) := by omega
      have h2z : (i : Int) + (k : Int) < (M : Int) := by omega
      have Xd : RB wr.drew B (bl (X k) M) rest := Row.ext Xr.out ((Ext.refl wr).drewN 1)
      have Ed : Ext w2 wr.drew := E.out.drewN 1
      have e1 := RB.cell Xd (i + k) (by rw [bl_len]; exact h2)
      rw [bl_at _ h2] at e1
      have f1 := Row.fr Xd (i + k)
      have xn := XN.out k
      have nX : Hid (RB (wr.drew.setCell ⟨B, i + k, none⟩ (.bool (X k (i + k) != bu.testBit k))) B (bl (X (k + 1)) M) rest) := by
        show RB _ _ _ _
        rw [← xn]
        exact RB.set Xd (i + k) (by rw [bl_len]; exact h2) _
      have nE : Hid (Ext w2 (wr.drew.setCell ⟨B, i + k, none⟩ (.bool (X k (i + k) != bu.testBit k)))) := Ed.setCell hg _
      have k4 : Hid (∀ W, Calls Try.prog 17 #[.int .u32 bu, .int .i64 k] W fun e w' => e = .returned (.bool (bu.testBit k)) ∧ w' = W) := fun W => c4.out k W (by omega)
      clear XN XR R0 RL GA GB BQ HL HR1 HE1 HMx HRs c4 xn E Xr Ed Xd Y1 E1' HV1
      generalize X k (i + k) = b0 at *
      generalize bu.testBit k = tb at *
      go_wp2_with fail
      refine (c3.out _).mono ?_
      rintro e w4 ⟨rfl, rfl⟩
      go_wp2
      obtain ⟨J, hJ⟩ : ∃ J, i + k = J := ⟨_, rfl⟩
      rw [hJ] at e1 f1 nX nE h2
      have wJ : IntKind.i64.wrap ((i : Int) + (k : Int)) = (J : Int) := by rw [← hJ, Int.natCast_add]; exact IntWalk.i64_in _ (by omega)
      have wJ2 : IntKind.i64.wrap (J : Int) = (J : Int) := IntWalk.i64_in _ (by omega)
      have zJ : (i : Int) + (k : Int) = (J : Int) := by omega
      clear hJ
      go_region_with (go_at_call 17; refine (k4.out _).mono ?_; rintro e w5 ⟨rfl, rfl⟩)
      all_goals
        go_wp2
        go_roundg (d - k)
        case measure => omega
        case rel => exact ⟨k + 1, by omega, by omega, by go_num, nE.out, nX.out⟩
    · have Xr' : Hid (RB wr B (bl (X k) M) rest) := Xr.out
      have E' : Hid (Ext w2 wr) := E.out
      have Bz : Hid (Bits wr ⟨some ⟨B, 0, none⟩, cap, bl (X k) M⟩) := Xr.out.bits (by rw [bl_len]; exact HRs.out) HMx.out
      have Y2 : Hid (y.l = R ∧ Bits wr y) := ⟨Y1.out.1, Y1.out.2.ext E.out⟩
      have LZ : Hid ((bl (X k) M).length = M) := bl_len _ _
      have HVz : Hid (Value.slice (some ⟨B, 0, none⟩) M cap = (⟨some ⟨B, 0, none⟩, cap, bl (X k) M⟩ : Wd).v) := by show _ = _; rw [Wd.v, bl_len]
      have xr : Hid (rs g (bl (X k) M) = 0 → bl (X k) M = R) := XR.out k hk
      clear XN XR Xr E HR1 HE1 HMx HRs c4 Xr'
      generalize bl (X k) M = Z at *
      have zd : (k : Int) < (d : Int) ∧ ¬ (i : Int) + (k : Int) < (M : Int) ∨ ¬ (k : Int) < (d : Int) := by omega
      clear hlt
      by_cases h0 : rs g Z = 0
      · have hZ : Z = R := xr.out h0
        have ga := GA.out ⟨some ⟨B, 0, none⟩, cap, Z⟩ wr LZ.out h0 Bz.out
        rw [← HVz.out] at ga
        have bq : Hid (∀ W, Ext wr W → Calls Try.prog 14 #[.slice (some ⟨B, 0, none⟩) M cap, .slice (some pa) M yc] W fun e w' => e = .returned (.bool true) ∧ Ext W w') := fun W EW => by
          have := BQ.out ⟨some ⟨B, 0, none⟩, cap, Z⟩ y W (Bz.out.ext EW) (Y2.out.2.ext EW)
          rw [← HVz.out, HV1.out] at this
          refine this.mono ?_
          rintro e w' ⟨rfl, q⟩
          exact ⟨ret_bool (by rw [Y2.out.1, ← hZ]; simp), q.ext⟩
        clear R0 RL GA GB BQ HL Y1 Y2 HV1 HVz LZ xr Bz h0 hZ
        rcases zd with ⟨z1, z2⟩ | z1
        all_goals
          go_wp2_with fail
          refine (c3.out _).mono ?_
          rintro e w4 ⟨rfl, rfl⟩
          go_wp2_with fail
          refine ga.mono ?_
          rintro e w5 ⟨v5, rfl, E5⟩
          have k5 := bq.out w5 E5
          have E5' : Hid (Ext w2 w5) := E'.out.trans E5
          go_wp2_with fail
          refine k5.mono ?_
          rintro e w6 ⟨rfl, E6⟩
          have E6' : Hid (Ext w w6) := E1'.out.trans (E5'.out.trans E6)
          go_wp2
          go_ret
          exact ⟨rfl, E6'.out⟩
      · have hZ : Z ≠ R := fun h => h0 (by rw [h]; exact R0.out)
        have gb := GB.out ⟨some ⟨B, 0, none⟩, cap, Z⟩ wr LZ.out h0 Bz.out
        rw [← HVz.out] at gb
        have bq : Hid (∀ W, Ext wr W → Calls Try.prog 14 #[.slice (some ⟨B, 0, none⟩) M cap, .slice (some pa) M yc] W fun e w' => e = .returned (.bool false) ∧ Ext W w') := fun W EW => by
          have := BQ.out ⟨some ⟨B, 0, none⟩, cap, Z⟩ y W (Bz.out.ext EW) (Y2.out.2.ext EW)
          rw [← HVz.out, HV1.out] at this
          refine this.mono ?_
          rintro e w' ⟨rfl, q⟩
          exact ⟨ret_bool (by rw [Y2.out.1]; exact beq_eq_false_iff_ne.2 hZ), q.ext⟩
        clear R0 RL GA GB BQ HL Y1 Y2 HV1 HVz LZ xr Bz h0 hZ
        rcases zd with ⟨z1, z2⟩ | z1
        all_goals
          go_wp2_with fail
          refine (c3.out _).mono ?_
          rintro e w4 ⟨rfl, rfl⟩
          go_wp2_with fail
          refine gb.mono ?_
          rintro e w5 ⟨rfl, rfl⟩
          have k5 := bq.out w5 (Ext.refl _)
          go_wp2_with fail
          refine k5.mono ?_
          rintro e w6 ⟨rfl, E6⟩
          have E6' : Hid (Ext w5 w6) := E6
          have k6 := bq.out w6 E6
          clear k5 E6 bq
          go_wp2_with fail
          refine k6.mono ?_
          rintro e w7 ⟨rfl, E7⟩
          have E7' : Hid (Ext w w7) := E1'.out.trans ((E'.out.trans E6'.out).trans E7)
          clear k6 E7 E6'
          go_wp2
          go_ret
          exact ⟨rfl, E7'.out⟩


theorem restBurst_walk (q : Int) (hq : (Lit.int .u32 q).wf = true) (x : Wd) (p : Int) (hp : (Lit.int .u8 p).wf = true) (b : Int) (hb : (Lit.int .u32 b).wf = true) (w : World) (hx : Bits w x) : Calls Try.prog 7 #[.int .u32 q, x.v, .int .u8 p, .int .u32 b] w fun e w' => e = .returned (.bool true) ∧ Ext w w' := by
  have hq' := u32_of hq
  have hp' := u8_of hp
  have hb' := u32_of hb
  obtain ⟨g, rfl⟩ : ∃ g : Nat, q = g := ⟨q.toNat, by omega⟩
  obtain ⟨p, rfl⟩ : ∃ g : Nat, p = g := ⟨p.toNat, by omega⟩
  obtain ⟨b, rfl⟩ : ∃ g : Nat, b = g := ⟨b.toNat, by omega⟩
  have hg : g < 4294967296 := by omega
  rcases rce_cases g x.l.length with h | h | ⟨h, hG, hl⟩
  · exact restBurst_bad g hg x 4 h (by decide) _ _ w
  · exact restBurst_bad g hg x 1 h (by decide) _ _ w
  · by_cases hf : x.l.length + g.log2 ≤ 64
    · exact restBurst_good g hG x h hf p (by omega) b (by omega) w hx
    · exact restBurst_large g hG x h (by omega) hl _ _ w

set_option maxRecDepth 100000 in
theorem restBurst_lifted (os : Os) (started : os.Started) (H : Type) (enc : TypeId × Value → H) :
    ReturnsInHanded {} Try.checked os 7 .any (Rows.restBurstSpec.pre6 enc Try.prog Try.f7 Rows.restBurstRow.domain false) (Rows.restBurstSpec.post enc Try.prog Try.f7 false true false false) := by
  refine returnsInHanded_of_change (C := Try.checked) own started (by kernel_rfl) Try.func7
    (ChangeSpec.witness6 (enc := enc) (C := Try.checked) false ⟨#[], #[.int .u32 0, .slice none 0 0, .int .u8 0, .int .u32 0], []⟩ 8 (by kernel_rfl) (by kernel_rfl) (by kernel_rfl) (by kernel_rfl)) ?_
  intro W base args ds gs before hval0 hW _ _
  have hval : ∀ (j : Nat) t v, Try.f7.params[j]? = some t → args[j]? = some v → Value.okWide Try.prog W .any base t v := hval0
  have hW' := hW
  obtain ⟨p, q, hA0, hV, rfl, hfz, hnd⟩ := hW
  have hA : DataW.TrodAll enc Try.prog W 0 (fun _ => true) true Try.f7.params.toList args.toList ds p := hA0
  rw [Try.params7] at hA hval
  obtain ⟨v0, vs0, d0, ds0, p0, q0, hargs, rfl, rfl, h0, r0⟩ := trodAll_cons hA
  obtain ⟨v1, vs1, d1, ds1, p1, q1, rfl, rfl, rfl, h1, r1⟩ := trodAll_cons r0
  obtain ⟨v2, vs2, d2, ds2, p2, q2, rfl, rfl, rfl, h2, r2⟩ := trodAll_cons r1
  obtain ⟨v3, vs3, d3, ds3, p3, q3, rfl, rfl, rfl, h3, r3⟩ := trodAll_cons r2
  obtain ⟨rfl, rfl, rfl⟩ := trodAll_nil r3
  obtain rfl : args = #[v0, v1, v2, v3] := by cases args; simp_all
  obtain ⟨rfl, rfl⟩ := trodVars_none hV
  have lt0 : ∀ x ∈ p0, x.block < W.heap.size := by obtain ⟨m, hm⟩ := h0; exact DataW.trod_lt m _ _ _ hm
  obtain ⟨x0, rfl, -, -, wf0⟩ := open_int Try.underlying22 (hval 0 22 v0 rfl rfl) h0
  have lt1 : ∀ x ∈ p1, x.block < W.heap.size := by obtain ⟨m, hm⟩ := h1; exact DataW.trod_lt m _ _ _ hm
  obtain ⟨x1, rfl, w1⟩ := open_word (hval 1 23 v1 rfl rfl) h1
  have lt2 : ∀ x ∈ p2, x.block < W.heap.size := by obtain ⟨m, hm⟩ := h2; exact DataW.trod_lt m _ _ _ hm
  obtain ⟨x2, rfl, -, -, wf2⟩ := open_int Try.underlying5 (hval 2 5 v2 rfl rfl) h2
  have lt3 : ∀ x ∈ p3, x.block < W.heap.size := by obtain ⟨m, hm⟩ := h3; exact DataW.trod_lt m _ _ _ hm
  obtain ⟨x3, rfl, -, -, wf3⟩ := open_int Try.underlying22 (hval 3 22 v3 rfl rfl) h3
  clear hA0 hval0
  refine (restBurst_walk x0 wf0 x1 x2 wf2 x3 wf3 W w1).mono fun e W' ⟨he, bel⟩ => ?_
  subst he
  exact ⟨_, rfl, _, _, _, [], _, [], hW', trodAll_mk1 (shut_bool Try.underlying4 _), (trodAll_cons_mk (Below.trod laidOut (by kernel_rfl) (of_decide_eq_true (by kernel_rfl)) h0 bel lt0) (trodAll_cons_mk (Below.trod laidOut (by kernel_rfl) (of_decide_eq_true (by kernel_rfl)) h1 bel lt1) (trodAll_cons_mk (Below.trod laidOut (by kernel_rfl) (of_decide_eq_true (by kernel_rfl)) h2 bel lt2) (trodAll_cons_mk (Below.trod laidOut (by kernel_rfl) (of_decide_eq_true (by kernel_rfl)) h3 bel lt3) trodAll_mk0)))), rfl, bel.frame _, fun h => by cases h⟩

theorem restBurst_holds : Rows.RestBurstSaid :=
  OpenClaim.holds_of_wide 7 Try.f7 rfl rfl rfl rfl rfl rfl rfl ⟨rfl, rfl, rfl, rfl, rfl⟩ rfl rfl rfl rfl rfl (by kernel_rfl) Try.func7 (by kernel_rfl)
    (of_decide_eq_true (by kernel_rfl)) (by unfold Func.isWrapper; rw [if_neg (of_decide_eq_false (by kernel_rfl))]; exact ⟨rfl, rfl⟩)
    (fun os started H enc _ => restBurst_lifted os started H enc)

#print axioms restBurst_holds

end Go.Proofs.Ythdlljmcppndlaa
