/-
  muller.mostVotes.
-/
import Derived.Test.YtakojkekelhobaaMv0
import Derived.Test.YtakojkekelhobaaVt
import Derived.Test.YtakojkekelhobaaFi
import Derived.Test.YtakojkekelhobaaDat
namespace Go.Proofs.Ytakojkekelhobaa
open Go.RowKit
set_option linter.unusedVariables false

theorem bl_set {f g : Nat → Bool} {n k : Nat} {v : Bool} (h : ∀ i, i < n → g i = if i = k then v else f i) : (bl f n).set k v = bl g n := by
  apply List.ext_getElem
  · simp
  · intro i h1 h2
    simp at h1 h2
    rw [List.getElem_set]
    simp only [List.getElem_map, List.getElem_range]
    rw [h i h2]
    by_cases hk : k = i
    · rw [if_pos hk, if_pos hk.symm]
    · rw [if_neg hk, if_neg (fun h => hk h.symm)]

set_option maxHeartbeats 4000000 in
theorem mostVotes_any (m r : Nat) (hm : m ≤ 4) (hr : r ≤ m) (y : Um) (hz : y.z = pl m (r + 1)) (x : Wd) (hl : x.l.length = 2 ^ m) (w : World) (hy : Us w y) (hx : Bits w x) :
    Calls Try.prog 21 #[.int .i64 m, y.v, x.v] w fun e w' => ∃ d : Wd, e = .returned d.v ∧ d.l = bl (gd (2 ^ m) (pl m (r + 1)) r (fun i => x.l.getD i false) (r + 1)) (pl m (r + 1)).length ∧ Bits w' d ∧ Ext w w' := by
  have lim := pow_lim hm
  have few := l_few hm hr
  have few0 : 0 < (pl m (r + 1)).length := by have := ed_step hm hr (Nat.zero_le r); rw [ed_zero] at this; omega
  obtain ⟨a, c, z⟩ := y
  obtain ⟨h1, h2, _, b, o, h4, h5⟩ := hy
  simp only at h1 h2 h4 h5 hz
  subst hz
  have h4' := h4 few0
  subst h4'
  have CL := clone_any x w hx (by omega) (by omega)
  obtain ⟨F, hF⟩ : ∃ F : Nat → Bool, ∀ i, F i = x.l.getD i false := ⟨_, fun _ => rfl⟩
  have EF : (fun i => x.l.getD i false) = F := funext (fun i => (hF i).symm)
  have EL : x.l = bl F (2 ^ m) := by rw [← hl, ← EF]; exact (bl_self x.l).symm
  rw [EF]
  rw [EL] at CL
  simp only [Um.v]
  obtain ⟨P, hP⟩ : ∃ P : Nat → Nat, ∀ i, P i = (pl m (r + 1)).getD i 0 := ⟨_, fun _ => rfl⟩
  obtain ⟨GD, hGD⟩ : ∃ GD : Nat → Nat → Bool, ∀ k, GD k = gd (2 ^ m) (pl m (r + 1)) r F k := ⟨_, fun _ => rfl⟩
  obtain ⟨LF, hLF⟩ : ∃ LF : Nat → Nat → Bool, ∀ k, LF k = lf (2 ^ m) (pl m (r + 1)) r F k := ⟨_, fun _ => rfl⟩
  obtain ⟨CC, hCC⟩ : ∃ CC : Nat → Nat → Bool, ∀ k, CC k = cc (2 ^ m) (pl m (r + 1)) r F k := ⟨_, fun _ => rfl⟩
  obtain ⟨V, hV⟩ : ∃ V : Nat → Nat → Bool, ∀ k i, V k i = vt (2 ^ m) (P i) (LF k) := ⟨_, fun _ _ => rfl⟩
  obtain ⟨E, hE⟩ : ∃ E : Nat → Nat, ∀ k, E k = ed m r k := ⟨_, fun _ => rfl⟩
  obtain ⟨H, hH⟩ : ∃ H : Nat → Nat → Nat → Bool, ∀ k j i, H k j i = if E (k + 1) ≤ i ∧ i < j then V k i else GD k i := ⟨_, fun _ _ _ => rfl⟩
  obtain ⟨T, hT⟩ : ∃ T : Nat → Nat → Nat → Bool, ∀ k j i, T k j i = if i < j then LF (k + 1) i else LF k i := ⟨_, fun _ _ _ => rfl⟩
  have EST : Hid (∀ k, k ≤ r → E (k + 1) < E k ∧ E k ≤ (pl m (r + 1)).length) := fun k hk => by rw [hE, hE]; exact ed_step hm hr hk
  have E0 : Hid (E 0 = (pl m (r + 1)).length) := by show _ = _; rw [hE]; rfl
  have EN : Hid (E (r + 1) = 0) := by show _ = _; rw [hE]; exact ed_all m r
  have PLT : Hid (∀ i, i < (pl m (r + 1)).length → P i < 2 ^ m) := fun i hi => by rw [hP]; exact (l_at hm hr hi).2
  have DEG : Hid (∀ k, k ≤ r → pop (P (E k - 1)) = r - k) := fun k hk => by
    have e := ed_step hm hr hk
    rw [hP, hE]
    exact (ed_deg hm hr hk (by omega)).1 ⟨by omega, by omega⟩
  have FST : Hid (∀ k, k ≤ r → pop (P (E (k + 1))) = r - k) := fun k hk => by
    have e := ed_step hm hr hk
    rw [hP, hE]
    exact (ed_deg hm hr hk (by omega)).1 ⟨by omega, by omega⟩
  have FNO : Hid (∀ k j, k ≤ r → j < E (k + 1) → ¬ pop (P j) = r - k) := fun k j hk hj h => by
    have e := ed_step hm hr hk
    rw [hE] at hj
    rw [hP] at h
    have := (ed_deg hm hr hk (i := j) (by omega)).2 h
    omega
  have H0 : Hid (∀ k, H k (E (k + 1)) = GD k) := fun k => funext (fun i => by rw [hH, if_neg (by omega)])
  have HN : Hid (∀ k j, E (k + 1) ≤ j → ∀ i, H k (j + 1) i = if i = j then V k j else H k j i) := fun k j hj i => by
    rw [hH, hH]
    by_cases e : i = j
    · rw [if_pos (show E (k + 1) ≤ i ∧ i < j + 1 by omega), if_pos e, e]
    · rw [if_neg e]
      by_cases h : E (k + 1) ≤ i ∧ i < j
      · rw [if_pos h, if_pos (show E (k + 1) ≤ i ∧ i < j + 1 by omega)]
      · rw [if_neg h, if_neg (show ¬ (E (k + 1) ≤ i ∧ i < j + 1) by omega)]
  have HE : Hid (∀ k, k ≤ r → ∀ i, i < (pl m (r + 1)).length → H k (E k) i = GD (k + 1) i) := fun k hk i hi => by
    rw [hH, hGD, hGD, gd_in hm hr hk hi, hE, hE, hV, hP, hLF]
  have G0 : Hid (∀ i, GD 0 i = false) := fun i => by rw [hGD]; rfl
  have GE : Hid (GD (r + 1) = gd (2 ^ m) (pl m (r + 1)) r F (r + 1)) := hGD (r + 1)
  have L0 : Hid (LF 0 = F) := hLF 0
  have LN : Hid (∀ k x, LF (k + 1) x = (LF k x != CC k x)) := fun k x => by rw [hLF, hLF, hCC]; rfl
  have T0 : Hid (∀ k, T k 0 = LF k) := fun k => funext (fun i => by rw [hT, if_neg (by omega)])
  have TE : Hid (∀ k i, i < 2 ^ m → T k (2 ^ m) i = LF (k + 1) i) := fun k i hi => by rw [hT, if_pos hi]
  have TJ : Hid (∀ k j, T k j j = LF k j) := fun k j => by rw [hT, if_neg (by omega)]
  have TN : Hid (∀ k j, (bl (T k j) (2 ^ m)).set j (LF k j != CC k j) = bl (T k (j + 1)) (2 ^ m)) := fun k j => bl_set (fun i _ => by
    rw [hT, hT, ← LN.out]
    by_cases e : i = j
    · rw [if_pos e, if_pos (show i < j + 1 by omega), e]
    · rw [if_neg e]
      by_cases h : i < j
      · rw [if_pos h, if_pos (show i < j + 1 by omega)]
      · rw [if_neg h, if_neg (show ¬ i < j + 1 by omega)])
  -- the callees
  have VOT : Hid (∀ k i g cap rest W, i < (pl m (r + 1)).length → RB W g (bl (LF k) (2 ^ m)) rest → 2 ^ m + rest.length = cap → cap ≤ maxLen →
      Calls Try.prog 33 #[.int .u32 (P i : Nat), .slice (some ⟨g, 0, none⟩) (2 ^ m : Nat) cap] W fun e w' => e = .returned (.bool (V k i)) ∧ Ext W w') := fun k i g cap rest W hi hr1 hc hmx => by
    have c := voteOn_any m (P i) hm (PLT.out i hi) ⟨some ⟨g, 0, none⟩, cap, bl (LF k) (2 ^ m)⟩ (bl_len _ _) W (hr1.bits (by rw [bl_len]; exact hc) hmx)
    simp only [Wd.v, bl_len] at c
    rw [vt_congr (e := LF k) (fun i hi => bl_at _ hi), ← hV] at c
    exact c
  have SUM : Hid (∀ k B c1 c2 W, k ≤ r → E k - E (k + 1) ≤ c1 → c1 ≤ maxLen → E k - E (k + 1) ≤ c2 → c2 ≤ maxLen → (∀ i, i < E k - E (k + 1) → W.cell? ⟨b, o + E (k + 1) + i, none⟩ = some (.int .u32 (P (E (k + 1) + i) : Nat))) →
      (∀ i, i < E k - E (k + 1) → W.cell? ⟨B, E (k + 1) + i, none⟩ = some (.bool (GD (k + 1) (E (k + 1) + i)))) →
      Calls Try.prog 20 #[.int .i64 m, .slice (some ⟨b, o + E (k + 1), none⟩) (E k - E (k + 1) : Nat) c1, .slice (some ⟨B, E (k + 1), none⟩) (E k - E (k + 1) : Nat) c2] W fun e w' => ∃ c5, e = .returned (.slice (some ⟨W.heap.size, 0, none⟩) (2 ^ m : Nat) c5) ∧ 2 ^ m ≤ c5 ∧ c5 ≤ 9223372036854775807 ∧ (∀ i, i < 2 ^ m → w'.cell? ⟨W.heap.size, i, none⟩ = some (.bool (CC k i))) ∧ Ext W w') := fun k B c1 c2 W hk q1 q2 q3 q4 q5 q6 => by
    have est := EST.out k hk
    have z1 : ((List.range (E k - E (k + 1))).map (fun i => P (E (k + 1) + i))).length = E k - E (k + 1) := by simp
    have z2 : ∀ i, i < E k - E (k + 1) → ((List.range (E k - E (k + 1))).map (fun i => P (E (k + 1) + i))).getD i 0 = P (E (k + 1) + i) := fun i hi => by simp [List.getD_eq_getElem?_getD, hi]
    have c := sumOf_any m hm ⟨some ⟨b, o + E (k + 1), none⟩, c1, (List.range (E k - E (k + 1))).map (fun i => P (E (k + 1) + i))⟩ ⟨some ⟨B, E (k + 1), none⟩, c2, bl (fun i => GD (k + 1) (E (k + 1) + i)) (E k - E (k + 1))⟩
      (by simp) (by simp; omega) (fun i hi => by
        rw [z1] at hi
        rw [z2 i hi]
        have := PLT.out (E (k + 1) + i) (by omega)
        omega) W ⟨by show (List.map _ _).length ≤ c1; rw [z1]; exact q1, q2, by simp, b, o + E (k + 1), fun _ => rfl, fun i hi => by
        have hi' : i < E k - E (k + 1) := by rw [← z1]; exact hi
        rw [q5 i hi', z2 i hi']⟩ ⟨by show (bl _ _).length ≤ c2; rw [bl_len]; exact q3, q4, by simp, B, E (k + 1), fun _ => rfl, fun i hi => by
        have hi' : i < E k - E (k + 1) := by rw [← bl_len (fun i => GD (k + 1) (E (k + 1) + i)) (E k - E (k + 1))]; exact hi
        rw [q6 i hi', bl_at _ hi']⟩
    simp only [Um.v, Wd.v, z1, bl_len] at c
    refine c.mono ?_
    rintro e w' ⟨⟨xa, xc, xl⟩, he, hx, ⟨b1, b2', _, b5, o5, b6, b7⟩, hE', hxa⟩
    simp only at hx hxa b1 b2' b6 b7
    subst hxa
    have hxl : xl.length = 2 ^ m := by rw [hx, bl_len]
    have hq := b6 (by omega)
    simp only [Option.some.injEq, Addr.mk.injEq] at hq
    unfold maxLen at b2'
    refine ⟨xc, by rw [he]; simp only [hxl], by omega, by omega, fun q hq2 => ?_, hE'⟩
    have hc := b7 q (by omega)
    rw [← hq.1, ← hq.2.1, Nat.zero_add] at hc
    rw [hc, hx, bl_at _ hq2]
    congr 2
    rw [hCC, cc_is hm hr hk, ← hE, ← hE]
    refine xs_congr _ (fun i hi => ?_)
    rw [bl_at _ hi, z2 i hi, hGD, hP]
  have FSTU : Hid (∀ k g W, k ≤ r → Ext w W → W.cell? ⟨g, 0, none⟩ = some (.int .i64 ((r - k : Nat) : Int)) →
      Calls Try.prog 31 #[.slice (some ⟨b, o, none⟩) (pl m (r + 1)).length c, .func (.func 32) #[] #[.pointer (some ⟨g, 0, none⟩)]] W fun e w' => e = .returned (.int .i64 (E (k + 1) : Nat)) ∧ Ext W w') := fun k g W hk hW hc => by
    have est := EST.out k hk
    refine firstU_any ⟨some ⟨b, o, none⟩, c, pl m (r + 1)⟩ 32 #[.pointer (some ⟨g, 0, none⟩)] (fun q => pop q == r - k) (E (k + 1)) (by show E (k + 1) < (pl m (r + 1)).length; omega) (beq_iff_eq.2 (by rw [← hP]; exact FST.out k hk)) (fun j hj => beq_eq_false_iff_ne.2 (by rw [← hP]; exact FNO.out k j hk hj)) W
      (enters_of Try.func32 (by kernel_rfl) rfl) ⟨h1, h2, by simp, b, o, fun _ => rfl, fun i hi => hW.cell (h5 i hi)⟩ (fun j W2 hj hE2 => ?_)
    have hp := PLT.out j hj
    rw [hP] at hp
    exact same_any _ (r - k) g (by show (pl m (r + 1)).getD j 0 < 4096; omega) (by omega) W2 (hE2.cell hc)
  have DGR : Hid (∀ i W, i < (pl m (r + 1)).length → Calls Try.prog 23 #[.int .u32 (P i : Nat)] W fun e w' => e = .returned (.int .i64 (pop (P i) : Nat)) ∧ Ext W w') := fun i W hi => (degreeOf_any (P i) (by have := PLT.out i hi; omega) W).mono (fun e w' h => ⟨h.1, by obtain ⟨d, rfl⟩ := h.2; exact (Ext.refl W).drewN d⟩)
  have HC : Hid (∀ i, i < (pl m (r + 1)).length → w.cell? ⟨b, o + i, none⟩ = some (.int .u32 (P i : Nat))) := fun i hi => by rw [hP]; exact h5 i hi
  clear EL EF hF h5 hP hGD hLF hCC hV hE hH hT hx
  have GE' : Hid (bl (gd (2 ^ m) (pl m (r + 1)) r F (r + 1)) (pl m (r + 1)).length = bl (GD (r + 1)) (pl m (r + 1)).length) := by show _ = _; rw [GE.out]
  generalize bl (gd (2 ^ m) (pl m (r + 1)) r F (r + 1)) (pl m (r + 1)).length = RES at *
  clear GE
  rw [L0.out.symm] at CL
  clear L0 F
  have hxv : x.v = .slice x.a (2 ^ m : Nat) x.c := by rw [Wd.v, hl]
  rw [hxv] at CL ⊢
  clear hxv hl
  generalize x.a = xa at *
  generalize x.c = xc at *
  clear x
  unfold maxLen at h2
  generalize (pl m (r + 1)).length = n at *
  generalize 2 ^ m = M at *
  go_enter Try.func21, Try.ntmps21
  go_wp2_with fail
  refine CL.mono ?_
  rintro e w1 ⟨v1, rfl, O1⟩
  clear CL
  obtain ⟨g, cap, rest, rfl, hg, hcap, hmax, hR1, hrest⟩ := O1.row (by rw [bl_len]; omega)
  rw [bl_len] at hcap hrest ⊢
  have hmk := run_make_row' (P := Try.prog) 29 4 (.bool false) 1 Try.underlying29 info4 rfl .i64 .i64 n (by omega) (by omega)
  have hgB : g < w1.heap.size := Row.lt hR1
  have hBw : w.heap.size ≤ w1.heap.size := O1.1.size
  have st : Hid (∃ W, W = w1.alloc (.cells (madeCells #[.bool false] n) 4) ∧ Ext w W ∧ Row W w1.heap.size 4 (bf (GD 0) n) ∧ RB W g (bl (LF 0) M) rest) :=
    ⟨_, rfl, O1.1.alloc _, Row.madeF w1 4 (.bool false) n _ (fun i _ => by rw [G0.out]), Row.ext hR1 ((Ext.refl w1).alloc _)⟩
  have MX : Hid (cap ≤ maxLen) := hmax
  have RST : Hid (M + rest.length = cap) := hrest
  unfold maxLen at hmax
  clear O1 hR1 hrest
  go_wp2
  obtain ⟨W, hW, hE1, hR1, hB1⟩ := st.out
  rw [← hW]
  have HE1 : Hid (Ext w W) := hE1
  have HR1 : Hid (Row W w1.heap.size 4 (bf (GD 0) n)) := hR1
  have HB1 : Hid (RB W g (bl (LF 0) M) rest) := hB1
  clear hW hE1 hR1 hB1 st hmk
  generalize w1.heap.size = B at *
  go_loopg [9] (r + 1) (fun gg s9 wr => ∃ k : Nat, k ≤ r + 1 ∧ r + 1 - k ≤ gg ∧ s9 = .int .i64 (E k : Nat) ∧ Aside (Ext w wr) ∧ Aside (Row wr B 4 (bf (GD k) n)) ∧ Aside (RB wr g (bl (LF k) M) rest))
  case atStart => exact ⟨0, Nat.zero_le _, by omega, by rw [E0.out], HE1.out, HR1.out, HB1.out⟩
  case round =>
    obtain ⟨k, hk, hgg, rfl, XE, XR, XB⟩ := hrel
    clear HE1 HR1 HB1
    by_cases hkr : k ≤ r
    · have est := EST.out k hkr
      have deg := DEG.out k hkr
      obtain ⟨e, he⟩ : ∃ e, E k = e + 1 := ⟨E k - 1, by omega⟩
      rw [he, Nat.add_sub_cancel] at deg
      rw [he] at est ⊢
      have HEK : Hid (E k = e + 1) := he
      have cell1 := XE.out.cell (HC.out e (by omega))
      have c1 := DGR.out e wr (by omega)
      rw [deg] at c1
      have XE' : Hid (Ext w wr) := XE.out
      have XR' : Hid (Row wr B 4 (bf (GD k) n)) := XR.out
      have XB' : Hid (RB wr g (bl (LF k) M) rest) := XB.out
      have hin : e < n := by omega
      clear he deg XE XR XB
      obtain ⟨s, hs⟩ : ∃ s, E (k + 1) = s := ⟨_, rfl⟩
      have HSK : Hid (E (k + 1) = s) := hs
      have hse : s ≤ e := by omega
      have FI : Hid (∀ g' W, Ext w W → W.cell? ⟨g', 0, none⟩ = some (.int .i64 ((r - k : Nat) : Int)) → Calls Try.prog 31 #[.slice (some ⟨b, o, none⟩) n c, .func (.func 32) #[] #[.pointer (some ⟨g', 0, none⟩)]] W fun e w' => e = .returned (.int .i64 (s : Nat)) ∧ Ext W w') := fun g' W h1 h2 => by
        have := FSTU.out k g' W hkr h1 h2
        rw [hs] at this
        exact this
      clear est hs
      generalize P e = pe at *
      generalize r - k = dg at *
      go_wp2_with fail
      refine c1.mono ?_
      rintro e w2 ⟨rfl, E2⟩
      clear c1
      have X2 : Hid (Ext wr w2) := E2
      clear E2
      go_wp2_with fail
      refine (FI.out w2.heap.size _ ((XE'.out.trans X2.out).alloc _) (by rw [cell_of_row _ _ _ _ _ _ (heap_alloc_new w2 (.cells #[.int .i64 (dg : Nat)] 3))]; rfl)).mono ?_
      rintro e3 w3 ⟨rfl, E3⟩
      have X23 : Ext wr w3 := (X2.out.alloc _).trans E3
      have YE : Hid (Ext w w3) := XE'.out.trans X23
      have YR : Hid (Row w3 B 4 (bf (H k s) n)) := by
        have h := H0.out k
        rw [HSK.out] at h
        show Row _ _ _ _
        rw [h]
        exact Row.ext XR'.out X23
      have YB : Hid (RB w3 g (bl (LF k) M) rest) := Row.ext XB'.out X23
      clear X2 E3 X23 XE' XR' XB' FI
      go_wp2
      go_loopg [12] (e + 1) (fun gg s12 wr => ∃ j : Nat, s ≤ j ∧ j ≤ e + 1 ∧ e + 1 - j ≤ gg ∧ s12 = .int .i64 j ∧ Aside (Ext w wr) ∧ Aside (Row wr B 4 (bf (H k j) n)) ∧ Aside (RB wr g (bl (LF k) M) rest))
      case atStart => exact ⟨s, Nat.le_refl _, by omega, by omega, rfl, YE.out, YR.out, YB.out⟩
      case round =>
        obtain ⟨j, hj1, hj2, hgj, rfl, ZE, ZR, ZB⟩ := hrel
        clear YE YR YB
        by_cases hje : j < e + 1
        · have hjz : (j : Int) < (e : Int) + 1 := by omega
          have e1 := ZE.out.cell (HC.out j (by omega))
          have c1 := VOT.out k j g cap rest wr (by omega) ZB.out RST.out MX.out
          have ZE' : Hid (Ext w wr) := ZE.out
          have ZR' : Hid (Row wr B 4 (bf (H k j) n)) := ZR.out
          have ZB' : Hid (RB wr g (bl (LF k) M) rest) := ZB.out
          have HN' : Hid (∀ i, H k (j + 1) i = if i = j then V k j else H k j i) := HN.out k j (by rw [HSK.out]; exact hj1)
          clear ZE ZR ZB
          generalize P j = pj at *
          go_wp2_with fail
          refine c1.mono ?_
          rintro e4 w4 ⟨rfl, E4⟩
          clear c1
          have hrow : Row w4 B 4 (bf (H k j) n) := Row.ext ZR'.out E4
          have e2 := hrow.cellF j (by omega)
          have f2 := hrow.fr j
          have nR : Hid (Row (w4.setCell ⟨B, j, none⟩ (.bool (V k j))) B 4 (bf (H k (j + 1)) n)) := hrow.setF _ _ (fun i hi => by
            rw [HN'.out]
            by_cases e : i = j
            · rw [if_pos e, if_pos e]
            · rw [if_neg e, if_neg e])
          have nB : Hid (RB (w4.setCell ⟨B, j, none⟩ (.bool (V k j))) g (bl (LF k) M) rest) := Row.other (Row.ext ZB'.out E4) ⟨B, j, none⟩ (by show B ≠ g; omega) _
          have nE : Hid (Ext w (w4.setCell ⟨B, j, none⟩ (.bool (V k j)))) := (ZE'.out.trans E4).setCell hBw _
          clear hrow E4 ZE' ZR' ZB' HN'
          generalize V k j = vv at *
          generalize H k j j = hv at *
          go_wp2
          go_roundg (e + 1 - (j + 1))
          case measure => omega
          case rel => exact ⟨j + 1, by omega, by omega, by omega, by go_num, nE.out, nR.out, nB.out⟩
        · obtain rfl : j = e + 1 := by omega
          have hjz : ¬ ((e + 1 : Nat) : Int) < (e : Int) + 1 := by omega
          have ZE' : Hid (Ext w wr) := ZE.out
          have ZB' : Hid (RB wr g (bl (LF k) M) rest) := ZB.out
          have ZR' : Hid (Row wr B 4 (bf (GD (k + 1)) n)) := by
            have h := ZR.out
            have q : bf (H k (e + 1)) n = bf (GD (k + 1)) n := List.map_congr_left (fun i hi => by
              have := HE.out k hkr i (List.mem_range.1 hi)
              rw [HEK.out] at this
              rw [this])
            rw [q] at h
            exact h
          clear ZE ZR ZB
          have hs1 : (s : Int) ≤ (e : Int) + 1 := by omega
          go_wp2
          have hBr : B < wr.heap.size := Row.lt ZR'.out
          have SU : Hid (Calls Try.prog 20 #[.int .i64 m, .slice (some ⟨b, o + s, none⟩) (e + 1 - s : Nat) (c - s), .slice (some ⟨B, s, none⟩) (e + 1 - s : Nat) (n - s)] wr.drew fun e w' => ∃ c5, e = .returned (.slice (some ⟨wr.heap.size, 0, none⟩) M c5) ∧ M ≤ c5 ∧ c5 ≤ 9223372036854775807 ∧ (∀ i, i < M → w'.cell? ⟨wr.heap.size, i, none⟩ = some (.bool (CC k i))) ∧ Ext wr.drew w') := by
            have q := SUM.out k B (c - s) (n - s) wr.drew hkr (by rw [HEK.out, HSK.out]; omega) (by unfold maxLen; omega) (by rw [HEK.out, HSK.out]; omega) (by unfold maxLen; omega) (fun i hi => by
              rw [HEK.out, HSK.out] at hi
              rw [HSK.out]
              have := (ZE'.out.drewN 1).cell (HC.out (s + i) (by omega))
              rw [Nat.add_assoc]
              exact this) (fun i hi => by
              rw [HEK.out, HSK.out] at hi
              rw [HSK.out]
              exact (Row.ext ZR'.out ((Ext.refl wr).drewN 1)).cellF (s + i) (by omega))
            rw [HEK.out, HSK.out] at q
            exact q
          go_region_with (go_at_call 20; refine SU.out.mono ?_; rintro e5 w5 ⟨c5, rfl, k1, k2, C5, E5⟩)
          all_goals
            clear SU
            have E5' : Ext wr w5 := ((Ext.refl wr).drewN 1).trans E5
            have VE : Hid (Ext w w5) := ZE'.out.trans E5'
            have VR : Hid (Row w5 B 4 (bf (GD (k + 1)) n)) := Row.ext ZR'.out E5'
            have VB : Hid (RB w5 g (bl (T k 0) M) rest) := by show RB _ _ _ _; rw [T0.out]; exact Row.ext ZB'.out E5'
            have VC : Hid (∀ i, i < M → w5.cell? ⟨wr.heap.size, i, none⟩ = some (.bool (CC k i))) := C5
            clear C5 E5 E5' ZE' ZR' ZB'
            generalize wr.heap.size = S at *
            go_wp2
            simp only [Act.put, List.getElem_toArray, List.getElem_cons_succ, List.getElem_cons_zero, List.setIfInBounds_toArray, List.set_cons_succ, List.set_cons_zero]
            go_loopg [59] M (fun gg s59 wr => ∃ j : Nat, j ≤ M ∧ M - j ≤ gg ∧ s59 = .int .i64 j ∧ Aside (Ext w wr) ∧ Aside (Row wr B 4 (bf (GD (k + 1)) n)) ∧ Aside (RB wr g (bl (T k j) M) rest) ∧ Aside (∀ i, i < M → wr.cell? ⟨S, i, none⟩ = some (.bool (CC k i))))
            case atStart => exact ⟨0, Nat.zero_le _, by omega, rfl, VE.out, VR.out, VB.out, VC.out⟩
            case round =>
              obtain ⟨j, hj, hgj, rfl, UE, UR, UB, UC⟩ := hrel
              clear VE VR VB VC
              by_cases hjM : j < M
              · have hjz : (j : Int) < (M : Int) := by omega
                have e1 := UC.out j hjM
                have e2 := UB.out.cell j (by rw [bl_len]; exact hjM)
                rw [bl_at _ hjM, TJ.out] at e2
                have f2 := Row.fr UB.out j
                have nB : Hid (RB (wr.setCell ⟨g, j, none⟩ (.bool (LF k j != CC k j))) g (bl (T k (j + 1)) M) rest) := by
                  have := UB.out.set j (by rw [bl_len]; exact hjM) (LF k j != CC k j)
                  rw [TN.out] at this
                  exact this
                have nR : Hid (Row (wr.setCell ⟨g, j, none⟩ (.bool (LF k j != CC k j))) B 4 (bf (GD (k + 1)) n)) := Row.other UR.out ⟨g, j, none⟩ (by show g ≠ B; omega) _
                have nE : Hid (Ext w (wr.setCell ⟨g, j, none⟩ (.bool (LF k j != CC k j)))) := UE.out.setCell hg _
                have nC : Hid (∀ i, i < M → (wr.setCell ⟨g, j, none⟩ (.bool (LF k j != CC k j))).cell? ⟨S, i, none⟩ = some (.bool (CC k i))) := fun i hi => by
                  rw [World.cell?_setCell_other _ _ _ _ (by intro h; simp only [Addr.mk.injEq] at h; omega)]
                  exact UC.out i hi
                clear UE UR UB UC
                generalize LF k j = u1 at *
                generalize CC k j = u2 at *
                cases u1 <;> cases u2
                all_goals
                  go_wp2
                  go_roundg (M - (j + 1))
                  case measure => omega
                  case rel => exact ⟨j + 1, by omega, by omega, by go_num, nE.out, nR.out, nB.out, nC.out⟩
              · obtain rfl : j = M := by omega
                have hjz : ¬ (j : Int) < (j : Int) := by omega
                have UE' : Hid (Ext w wr) := UE.out
                have UR' : Hid (Row wr B 4 (bf (GD (k + 1)) n)) := UR.out
                have UB' : Hid (RB wr g (bl (LF (k + 1)) j) rest) := by
                  have h := UB.out
                  rw [bl_congr (fun i hi => TE.out k i hi)] at h
                  exact h
                clear UE UR UB UC
                go_wp2
                go_roundg (r + 1 - (k + 1))
                case measure => omega
                case rel => exact ⟨k + 1, by omega, by omega, by rw [HSK.out], UE'.out, UR'.out, UB'.out⟩
    · obtain rfl : k = r + 1 := by omega
      have he0 := EN.out
      rw [he0]
      have XE' : Hid (Ext w wr) := XE.out
      have XR' : Hid (Row wr B 4 (bf (GD (r + 1)) n)) := XR.out
      clear XE XR XB he0
      go_wp2
      go_ret
      refine ⟨⟨some ⟨B, 0, none⟩, n, bl (GD (r + 1)) n⟩, by show _ = Ending.returned (.slice _ (bl (GD (r + 1)) n).length n); rw [bl_len]; rfl, by rw [GE'.out], ?_, XE'.out⟩
      have h := XR'.out
      rw [bf_bv] at h
      have := h.bits (by rw [bl_len]; unfold maxLen; omega)
      rw [bl_len] at this
      exact this

end Go.Proofs.Ytakojkekelhobaa
