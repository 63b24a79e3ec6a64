/-
  Of an even number of bits half of those that are told are set, and half of what is put; and with fewer turned they are not half: EvenHalf returns true for every list of bits and every byte, and changes nothing.
-/
import Derived.Test.YtibedfdgkknoiaaOpen
import Derived.Test.YtibedfdgkknoiaaHl
import Derived.ProofKit
namespace Go.Proofs.Ytibedfdgkknoiaa
open Go.ChangeShapes Go.WideShapes Go.ChangeAt Go.RowKit Go.Deep
set_option linter.unusedVariables false

theorem u8_of {x : Int} (h : (Lit.int .u8 x).wf = true) : 0 ≤ x ∧ x < 256 := by
  have b : IntKind.u8.min = 0 ∧ IntKind.u8.max = 255 := by decide
  simp only [Lit.wf, b, Bool.and_eq_true, decide_eq_true_eq] at h
  omega
theorem OwnB.cut {w w' : World} {v : Value} {l : List Bool} (h : OwnB w w' v l) (n : Nat) (hn : l.length = n) : ∃ a c, v = .slice a n c ∧ Bits w' ⟨a, c, l⟩ ∧ Ext w w' := by
  obtain ⟨⟨a, c, m⟩, rfl, h2, h3⟩ := h.bits
  obtain rfl : m = l := h2
  exact ⟨a, c, by rw [Wd.v, hn], h3, h.1⟩
theorem keepOnes_at (a : Option Addr) (c : Nat) (L : List Bool) (m : Nat) (hm : L.length = m) (h : m ≤ 1000) (W : World) (hb : Bits W ⟨a, c, L⟩) : Calls Try.prog 16 #[.slice a m c] W fun e w' => e = .returned (.int .i64 (on L : Nat)) ∧ w' = W := by
  subst hm
  exact keepOnes_any ⟨a, c, L⟩ h W hb

theorem evenHalf_bad (x : Wd) (k : Int) (h : ce x.l.length ≠ 0) (hm : x.l.length ≤ maxLen) (w : World) : Calls Try.prog 6 #[x.v, .int .u8 k] w fun e w' => e = .returned (.bool true) ∧ Ext w w' := by
  have c1 := Turn_bad x h hm w
  have c2 := Put_bad x h hm w
  rcases ce_not h with h1 | h1
  · rw [ce_large h1] at c1 c2
    have hz : (x.l.length : Int) > 12 := by omega
    clear h
    simp only [Wd.v] at *
    generalize x.l.length = n at *
    unfold maxLen at hm
    go_enter Try.func6, Try.ntmps6
    go_wp2_with fail
    refine c1.mono ?_
    rintro e w1 ⟨rfl, rfl⟩
    clear c1
    go_wp2_with fail
    refine c2.mono ?_
    rintro e w2 ⟨rfl, rfl⟩
    clear c2
    go_wp2
    go_ret
    exact ⟨rfl, Ext.refl _⟩
  · by_cases h2 : 12 < x.l.length
    · rw [ce_large h2] at c1 c2
      have hz : (x.l.length : Int) > 12 := by omega
      clear h h1
      simp only [Wd.v] at *
      generalize x.l.length = n at *
      unfold maxLen at hm
      go_enter Try.func6, Try.ntmps6
      go_wp2_with fail
      refine c1.mono ?_
      rintro e w1 ⟨rfl, rfl⟩
      clear c1
      go_wp2_with fail
      refine c2.mono ?_
      rintro e w2 ⟨rfl, rfl⟩
      clear c2
      go_wp2
      go_ret
      exact ⟨rfl, Ext.refl _⟩
    · rw [ce_odd (by omega) h1] at c1 c2
      have hz : ¬ (x.l.length : Int) > 12 := by omega
      have yz := rem2 x.l.length
      rw [h1] at yz
      clear h h1
      simp only [Wd.v] at *
      generalize x.l.length = n at *
      unfold maxLen at hm
      go_enter Try.func6, Try.ntmps6
      go_wp2_with fail
      refine c1.mono ?_
      rintro e w1 ⟨rfl, rfl⟩
      clear c1
      go_wp2_with fail
      refine c2.mono ?_
      rintro e w2 ⟨rfl, rfl⟩
      clear c2
      go_wp2
      go_ret
      exact ⟨rfl, Ext.refl _⟩

set_option maxHeartbeats 2000000 in
theorem evenHalf_good (x : Wd) (k : Nat) (hk : k < 256) (hl : x.l.length ≤ 12) (he : x.l.length % 2 = 0) (w : World) (hx : Bits w x) : Calls Try.prog 6 #[x.v, .int .u8 k] w fun e w' => e = .returned (.bool true) ∧ Ext w w' := by
  have hm1 := hx.1
  have hm2 := hx.2.1
  unfold maxLen at hm2
  obtain ⟨a1, a2, a3⟩ := lk_spec he
  have c1 := Turn_good x hl he w hx
  have C2 : Hid (∀ W, Ext w W → Calls Try.prog 12 #[x.v] W fun e w' => ∃ v, e = .returned (.tuple #[v, .int .i64 0]) ∧ OwnB W w' v (pt x.l)) := fun W E => Put_good x hl he W (hx.ext E)
  obtain ⟨S, hS⟩ : ∃ S : Nat → List Bool, ∀ k, S k = tt k x.l := ⟨_, fun _ => rfl⟩
  have HT : Hid (∀ k, (S k).length = x.l.length) := fun k => by rw [hS, tt_len]
  have HS : Hid (∀ k, k < x.l.length → S (k + 1) = (S k).set k (!((S k).getD k false))) := fun k hk => by rw [hS, hS]; exact tt_next k x.l hk
  have HZ : Hid (S 0 = x.l) := hS 0
  have T2 : 2 * on (S (lk x.l)) = x.l.length := by rw [hS]; exact a2
  have TN : Hid (∀ j, j < lk x.l → 2 * on (S j) ≠ x.l.length) := fun j hj => by rw [hS]; exact a3 j hj
  have PL : Hid ((pt x.l).length = x.l.length + 8) := pt_len x.l
  have P2 : 2 * on (pt x.l) = x.l.length + 8 := pt_half he
  have HX : Hid (∀ W, Ext w W → Bits W x) := fun W E => hx.ext E
  have yz := rem2 x.l.length
  rw [he] at yz
  rw [← hS] at c1
  clear a2 a3 hS hx he
  obtain ⟨a, c, l⟩ := x
  simp only [Wd.v] at *
  obtain ⟨n, hn⟩ : ∃ n, l.length = n := ⟨_, rfl⟩
  have HV : Hid (Value.slice a n c = Wd.v ⟨a, c, l⟩) := by show _ = Value.slice _ _ _; rw [hn]
  have HB : Hid (([] : List Bool).length + (⟨a, c, l⟩ : Wd).l.length ≤ 140737488355328) := by show 0 + l.length ≤ _; omega
  generalize pt l = P at *
  generalize lk l = K at *
  simp only [hn] at c1 C2 HT HS TN PL hm1 hl a1 yz ⊢
  rw [hn] at P2 T2
  have TK := HT.out K
  clear hn
  obtain ⟨n8, hn8⟩ : ∃ n8, n8 = n + 8 := ⟨_, rfl⟩
  have PL : Hid (P.length = n8) := by show _ = _; rw [hn8]; exact PL.out
  have o1 : on (S K) ≤ n := by omega
  have o2 : on P ≤ n8 := by omega
  have f1 : 2 * (on (S K) : Int) = (n : Int) := by omega
  have f2 : 2 * (on P : Int) = (n : Int) + 8 := by omega
  have f3 : (n8 : Int) = (n : Int) + 8 := by omega
  have C3 : Hid (∀ W ya yc, Bits W ⟨ya, yc, S K⟩ → Calls Try.prog 16 #[.slice ya n yc] W fun e w' => e = .returned (.int .i64 (on (S K) : Nat)) ∧ w' = W) := fun W ya yc hb => keepOnes_at ya yc (S K) n TK (by omega) W hb
  have C4 : Hid (∀ W ya yc, Bits W ⟨ya, yc, P⟩ → Calls Try.prog 16 #[.slice ya n8 yc] W fun e w' => e = .returned (.int .i64 (on P : Nat)) ∧ w' = W) := fun W ya yc hb => keepOnes_at ya yc P n8 PL.out (by omega) W hb
  have hn12 : n8 ≤ 20 := by omega
  have hz : ¬ (n : Int) > 12 := by omega
  have TK : Hid ((S K).length = n) := TK
  obtain ⟨TT, hTT⟩ : ∃ TT, TT = S K := ⟨_, rfl⟩
  obtain ⟨M, hM⟩ : ∃ M, M = k % K := ⟨_, rfl⟩
  have yzk : (k : Int).tmod (K : Int) = (M : Int) := by rw [hM]; exact (Int.ofNat_tmod k K).symm
  have hMK : 0 < K → M < K := fun h => by rw [hM]; exact Nat.mod_lt _ h
  rw [← hTT] at c1 f1 o1 TK C3
  clear P2 T2 hn8 hTT hM
  generalize hq1 : on TT = q1 at *
  generalize hq2 : on P = q2 at *
  clear hq1 hq2
  go_enter Try.func6, Try.ntmps6
  go_wp2_with fail
  refine c1.mono ?_
  rintro e w1 ⟨v, rfl, O⟩
  obtain ⟨ya, yc, rfl, hb, E⟩ := O.cut n TK.out
  have E1 : Hid (Ext w w1) := E
  have Y1 : Hid (Bits w1 ⟨ya, yc, TT⟩) := hb
  clear c1 hb E O
  go_wp2_with fail
  refine (C2.out w1 E1.out).mono ?_
  rintro e w2 ⟨v, rfl, O⟩
  obtain ⟨za, zc, rfl, hb, E⟩ := O.cut n8 PL.out
  have E2 : Hid (Ext w w2) := E1.out.trans E
  have c3 := C3.out w2 ya yc (Y1.out.ext E)
  have c4 := C4.out w2 za zc hb
  clear C2 hb E O Y1 E1 C3 C4
  go_wp2_with fail
  refine c3.mono ?_
  rintro e w3 ⟨rfl, rfl⟩
  clear c3
  go_wp2_with fail
  refine c4.mono ?_
  rintro e w4 ⟨rfl, rfl⟩
  clear c4
  by_cases hK : K = 0
  · subst hK
    clear HT HS HZ TN HX TK PL
    go_wp2
    go_ret
    exact ⟨rfl, E2.out⟩
  · have hKz : ((K : Int) == 0) = false := by rw [beq_eq_false_iff_ne]; omega
    have hM2 := hMK (by omega)
    have hX : Hid (Bits (w4.alloc (.cells #[] 4)) ⟨a, c, l⟩) := (HX.out w4 E2.out).ext ((Ext.refl w4).alloc _)
    have HO : Hid (OwnB w4 (w4.alloc (.cells #[] 4)) (.slice (some ⟨w4.heap.size, 0, none⟩) 0 0) []) := OwnB.empty w4
    have HN : Hid (l.length = n) := by show _ = _; rw [← HZ.out]; exact HT.out 0
    have HZ2 : Hid (S 0 = l) := HZ.out
    have fin : ((2 * (on (S M) : Int)) == (n : Int)) = false := by
      rw [beq_eq_false_iff_ne]
      have := TN.out M hM2
      omega
    have o3 : on (S M) ≤ n := by rw [← HT.out M]; exact on_le _
    clear hMK HX TK PL TN HZ o1 o2
    go_wp2_with (at_builtin; refine wpList_appendBits rfl _ _ rfl w4 _ _ (by rfl) [] HO.out ⟨a, c, l⟩ (by exact HV.out) hX.out HB.out ?_; intro v w5 O; rw [List.nil_append] at O; obtain ⟨g, cap, rest, rfl, hg, hcap, hmax, hR1, hrest⟩ := O.row (by show 0 < l.length; rw [HN.out]; omega); replace O : OwnB w4 w5 _ l := O; replace hR1 : RB w5 g l rest := hR1; replace hcap : l.length ≤ cap := hcap; replace hrest : l.length + rest.length = cap := hrest; simp only [HN.out] at hcap hrest ⊢; have HR1 : Hid (RB w5 g (S 0) rest) := (by show RB _ _ _ _; rw [HZ2.out]; exact hR1); have HE1 : Hid (Ext w w5) := E2.out.trans O.1; have HMx : Hid (cap ≤ maxLen) := hmax; unfold maxLen at hmax; clear O hR1)
    clear HO hX HN HZ2 HB HV
    have hgw : w.heap.size ≤ g := Nat.le_trans E2.out.size hg
    go_loopg [11] M (fun gg s11 wr => ∃ i : Nat, i ≤ M ∧ M - i ≤ gg ∧ s11 = .int .i64 i ∧ Aside (Ext w wr) ∧ Aside (RB wr g (S i) rest))
    case atStart => exact ⟨0, Nat.zero_le _, by omega, rfl, HE1.out, HR1.out⟩
    case round =>
      obtain ⟨i, hi, hgg, rfl, E, X⟩ := hrel
      by_cases hlt : i < M
      · have hltz : (i : Int) < (M : Int) := by omega
        have e2 := X.out.cell i (by rw [HT.out]; omega)
        have f2 := Row.fr X.out i
        have nX : Hid (RB (wr.setCell ⟨g, i, none⟩ (.bool (!((S i).getD i false)))) g (S (i + 1)) rest) := by
          show RB _ _ _ _
          rw [HS.out i (by omega)]
          exact X.out.set i (by rw [HT.out]; omega) _
        have nE : Hid (Ext w (wr.setCell ⟨g, i, none⟩ (.bool (!((S i).getD i false))))) := E.out.setCell hgw _
        generalize (S i).getD i false = b0 at *
        clear HT HS X E HR1 HE1
        go_wp2
        go_roundg (M - (i + 1))
        case measure => omega
        case rel => exact ⟨i + 1, by omega, by omega, by go_num, nE.out, nX.out⟩
      · obtain rfl : i = M := by omega
        have hltz : ¬ (i : Int) < (i : Int) := by omega
        have E3 : Hid (Ext w wr) := E.out
        have c5 := keepOnes_at (some ⟨g, 0, none⟩) cap (S i) n (HT.out i) (by omega) wr (X.out.bits (by rw [HT.out]; exact hrest) HMx.out)
        clear HT HS X E HR1 HE1
        generalize on (S i) = q3 at *
        go_wp2_with fail
        refine c5.mono ?_
        rintro e w6 ⟨rfl, rfl⟩
        clear c5
        go_wp2
        go_ret
        exact ⟨ret_bool (by show (!_) = true; rw [fin]; rfl), E3.out⟩

theorem evenHalf_walk (x : Wd) (k : Int) (h0 : 0 ≤ k) (hk : k < 256) (w : World) (hx : Bits w x) : Calls Try.prog 6 #[x.v, .int .u8 k] w fun e w' => e = .returned (.bool true) ∧ Ext w w' := by
  by_cases h : ce x.l.length = 0
  · obtain ⟨n, rfl⟩ := Int.eq_ofNat_of_zero_le h0
    exact evenHalf_good x n (by omega) (ce_zero h).1 (ce_zero h).2 w hx
  · exact evenHalf_bad x k h (Nat.le_trans hx.1 hx.2.1) w

set_option maxRecDepth 100000 in
theorem evenHalf_lifted (os : Os) (started : os.Started) (H : Type) (enc : TypeId × Value → H) :
    ReturnsInHanded {} Try.checked os 6 .any (Rows.evenHalfSpec.pre6 enc Try.prog Try.f6 Rows.evenHalfRow.domain false) (Rows.evenHalfSpec.post enc Try.prog Try.f6 false true false false) := by
  refine returnsInHanded_of_change (C := Try.checked) own started (by kernel_rfl) Try.func6
    (ChangeSpec.witness6 (enc := enc) (C := Try.checked) false ⟨#[], #[.slice none 0 0, .int .u8 0], []⟩ 8 (by kernel_rfl) (by kernel_rfl) (by kernel_rfl) (by kernel_rfl)) ?_
  intro W base args ds gs before hval0 hW _ _
  have hval : ∀ (j : Nat) t v, Try.f6.params[j]? = some t → args[j]? = some v → Value.okWide Try.prog W .any base t v := hval0
  have hW' := hW
  obtain ⟨p, q, hA0, hV, rfl, hfz, hnd⟩ := hW
  have hA : DataW.TrodAll enc Try.prog W 0 (fun _ => true) true Try.f6.params.toList args.toList ds p := hA0
  rw [Try.params6] at hA hval
  obtain ⟨v0, vs0, d0, ds0, p0, q0, hargs, rfl, rfl, h0, r0⟩ := trodAll_cons hA
  obtain ⟨v1, vs1, d1, ds1, p1, q1, rfl, rfl, rfl, h1, r1⟩ := trodAll_cons r0
  obtain ⟨rfl, rfl, rfl⟩ := trodAll_nil r1
  obtain rfl : args = #[v0, v1] := by cases args; simp_all
  obtain ⟨rfl, rfl⟩ := trodVars_none hV
  have lt0 : ∀ x ∈ p0, x.block < W.heap.size := by obtain ⟨m, hm⟩ := h0; exact DataW.trod_lt m _ _ _ hm
  obtain ⟨x0, rfl, w0⟩ := open_word (hval 0 22 v0 rfl rfl) h0
  have lt1 : ∀ x ∈ p1, x.block < W.heap.size := by obtain ⟨m, hm⟩ := h1; exact DataW.trod_lt m _ _ _ hm
  obtain ⟨x1, rfl, -, -, wf1⟩ := open_int Try.underlying5 (hval 1 5 v1 rfl rfl) h1
  clear hA0 hval0
  refine (evenHalf_walk x0 x1 (u8_of wf1).1 (u8_of wf1).2 W w0).mono fun e W' ⟨he, bel⟩ => ?_
  subst he
  exact ⟨_, rfl, _, _, _, [], _, [], hW', trodAll_mk1 (shut_bool Try.underlying4 _), (trodAll_cons_mk (Below.trod laidOut (by kernel_rfl) (of_decide_eq_true (by kernel_rfl)) h0 bel lt0) (trodAll_cons_mk (Below.trod laidOut (by kernel_rfl) (of_decide_eq_true (by kernel_rfl)) h1 bel lt1) trodAll_mk0)), rfl, bel.frame _, fun h => by cases h⟩

theorem evenHalf_holds : Rows.EvenHalfSaid :=
  OpenClaim.holds_of_wide 6 Try.f6 rfl rfl rfl rfl rfl rfl rfl ⟨rfl, rfl, rfl, rfl, rfl⟩ rfl rfl rfl rfl rfl (by kernel_rfl) Try.func6 (by kernel_rfl)
    (of_decide_eq_true (by kernel_rfl)) (by unfold Func.isWrapper; rw [if_neg (of_decide_eq_false (by kernel_rfl))]; exact ⟨rfl, rfl⟩)
    (fun os started H enc _ => evenHalf_lifted os started H enc)

#print axioms evenHalf_holds

end Go.Proofs.Ytibedfdgkknoiaa
