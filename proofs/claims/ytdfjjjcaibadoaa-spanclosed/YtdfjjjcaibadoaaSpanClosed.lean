/-
  For any rows and any two sums of them their sum is one, and each row is: SpanClosed returns true for every number, every list of words and every two numbers of 16 bits, and changes nothing.
-/
import Derived.Test.YtdfjjjcaibadoaaOpu
import Derived.Test.YtdfjjjcaibadoaaFa
import Derived.Test.YtdfjjjcaibadoaaAp
import Derived.Deep.DeepCutAuto
import Derived.Deep.CutRange
namespace Go.Proofs.Ytdfjjjcaibadoaa
open Go.ChangeShapes Go.WideShapes Go.ChangeAt Go.RowKit Go.Deep
set_option linter.unusedVariables false

theorem u16_both : IntKind.u16.min = 0 ∧ IntKind.u16.max = 65535 := by decide
theorem u16_of {x : Int} (h : (Lit.int .u16 x).wf = true) : 0 ≤ x ∧ x < 65536 := by
  simp only [Lit.wf, u16_both, Bool.and_eq_true, decide_eq_true_eq] at h
  omega

theorem rise_first {S : List Nat} (h : S.Pairwise (· < ·)) (h0 : 0 ∈ S) : S.getD 0 0 = 0 := by
  cases S with
  | nil => rfl
  | cons a l =>
    show a = 0
    rw [List.pairwise_cons] at h
    rcases List.mem_cons.1 h0 with e | e
    · exact e.symm
    · have := h.1 0 e; omega

/-- Whether one of the first k words is r. -/
def hk (S : List Nat) (r : Nat) : Nat → Bool
  | 0 => false
  | k + 1 => hk S r k || (S.getD k 0 == r)
theorem hk_yes {S : List Nat} {r t : Nat} : ∀ {k}, t < k → S.getD t 0 = r → hk S r k = true
  | 0, h, _ => by omega
  | k + 1, h, e => by
    show (hk S r k || (S.getD k 0 == r)) = true
    by_cases c : t = k
    · subst c; rw [e]; simp
    · rw [hk_yes (by omega) e]; rfl

theorem owned_u (w : World) (q : Nat) : OwnU w (w.alloc (.cells #[.int .u32 (q : Nat)] 33)) (.slice (some ⟨w.heap.size, 0, none⟩) 1 1) [q] := by
  refine OwnU.of_row (z := [q]) (r := []) ((Ext.refl w).alloc _) (Nat.le_refl _) (by unfold maxLen; omega) rfl ?_
  show (w.alloc _).heap[w.heap.size]? = _
  rw [heap_alloc_new]
  rfl

theorem spanClosed_bad (n : Int) (x : Um) (hb : ∀ y ∈ x.z, y < 4294967296) (h : re n x.z ≠ 0) (i j : Int) (w : World) (hx : Us w x) :
    Calls Try.prog 7 #[.int .i64 n, x.v, .int .u16 i, .int .u16 j] w fun e w' => e = .returned (.bool true) ∧ Ext w w' := by
  have c1 := span_bad n x hb h w hx
  have c2 : Hid (∀ W, Ext w W → Calls Try.prog 19 #[.int .i64 n, x.v] W fun e w' => e = .returned (.bool false) ∧ w' = W) := fun W E => by
    have := rowed_any n x hb W (hx.ext E)
    rw [show (re n x.z == 0) = false by rw [beq_eq_false_iff_ne]; exact h] at this
    exact this
  have hz : (re n x.z != 0) = true := by rw [bne_iff_ne]; exact h
  clear h hb hx
  generalize re n x.z = R at *
  obtain ⟨a, c, g⟩ := x
  simp only [Um.v] at *
  generalize g.length = m at *
  go_enter Try.func7, Try.ntmps7
  go_wp2_with fail
  refine c1.mono ?_
  rintro e w1 ⟨rfl, E1⟩
  have X1 : Aside (Ext w w1) := E1
  have c2' := c2.out w1 E1
  clear c1 c2 E1
  go_wp2_with fail
  refine c2'.mono ?_
  rintro e w2 ⟨rfl, rfl⟩
  clear c2'
  go_wp2
  go_ret
  exact ⟨ret_bool (by first | rfl | simp [hz]), X1.out⟩

set_option maxRecDepth 100000 in
set_option maxHeartbeats 4000000 in
theorem spanClosed_good (n : Nat) (hn : n ≤ 12) (x : Um) (hl : x.z.length ≤ 8) (hb : ∀ y ∈ x.z, y < 2 ^ n) (i j : Nat) (hi : i < 65536) (hj : j < 65536) (w : World) (hx : Us w x) :
    Calls Try.prog 7 #[.int .i64 n, x.v, .int .u16 (i : Nat), .int .u16 (j : Nat)] w fun e w' => e = .returned (.bool true) ∧ Ext w w' := by
  have c1 := span_good n hn x hl hb w hx
  have c2 : Hid (∀ W, Ext w W → Calls Try.prog 19 #[.int .i64 n, x.v] W fun e w' => e = .returned (.bool true) ∧ w' = W) := fun W E => by
    have := rowed_any n x (rows_32 hn hb) W (hx.ext E)
    rw [re_good hn hl hb] at this
    exact this
  have LI := spn_lin hb
  have SP : 0 < (spn n x.z).length := List.length_pos_of_mem LI.zero
  have S0 : (spn n x.z).getD 0 0 = 0 := rise_first (spn_rise n x.z) LI.zero
  have SF : (spn n x.z).length ≤ 2 ^ n := by
    have := List.length_filter_le (inb x.z) (List.range (2 ^ n))
    rw [List.length_range] at this
    exact this
  have hM : 2 ^ n ≤ 2 ^ 12 := Nat.pow_le_pow_right (by omega) hn
  have LOW : Hid (∀ y ∈ spn n x.z, y < 4294967296) := fun y hy => by have := LI.low y hy; omega
  have SUMS : Hid (∀ u ∈ spn n x.z, ∀ v ∈ spn n x.z, u ^^^ v ∈ spn n x.z) := LI.sum
  have ROWS : Hid (∀ u ∈ x.z, u ∈ spn n x.z) := fun u hu => (spn_mem hb).2 (inb_row hu)
  have HX : Hid (Us w x) := hx
  have HL8 : Hid (x.z.length ≤ 8) := hl
  clear hb hx LI
  generalize spn n x.z = S at *
  obtain ⟨L, hL⟩ : ∃ L, S.length = L := ⟨_, rfl⟩
  obtain ⟨I, hI⟩ : ∃ I, i % L = I := ⟨_, rfl⟩
  obtain ⟨J, hJ⟩ : ∃ J, j % L = J := ⟨_, rfl⟩
  rw [hL] at SP SF
  have HLL : Hid (S.length = L) := hL
  have hIL : I < L := by rw [← hI]; exact Nat.mod_lt _ SP
  have hJL : J < L := by rw [← hJ]; exact Nat.mod_lt _ SP
  have Iz : (i : Int).tmod (L : Int) = (I : Int) := by rw [← Int.ofNat_tmod, hI]
  have Jz : (j : Int).tmod (L : Int) = (J : Int) := by rw [← Int.ofNat_tmod, hJ]
  obtain ⟨a, c, g⟩ := x
  simp only [Um.v] at *
  obtain ⟨m, hm⟩ : ∃ m, g.length = m := ⟨_, rfl⟩
  have HMm : Hid (g.length = m) := hm
  rw [hm] at c1 c2 hl ⊢
  clear hI hJ hm hL
  go_enter Try.func7, Try.ntmps7
  go_wp2_with fail
  refine c1.mono ?_
  intro e w1 h1
  obtain ⟨v, rfl, O1⟩ := h1.out
  obtain ⟨y, rfl, hz, hus⟩ := O1.us
  have X1 : Hid (Ext w w1) := O1.1
  have c2' := c2.out w1 O1.1
  have HU : Hid (Us w1 y ∧ y.z = S) := ⟨hus, hz⟩
  clear c1 c2 h1 O1 hus
  obtain ⟨ya, yc, yz⟩ := y
  simp only at hz
  subst hz
  simp only [Um.v] at *
  rw [HLL.out]
  go_wp2_with fail
  refine c2'.mono ?_
  rintro e w2 ⟨rfl, rfl⟩
  clear c2'
  obtain ⟨h1, h2, _, b, o, h4, h5⟩ := HU.out.1
  simp only at h1 h2 h4 h5
  rw [HLL.out] at h1 h4 h5
  obtain rfl := h4 SP
  have H5 : Hid (∀ k, k < L → w2.cell? ⟨b, o + k, none⟩ = some (.int .u32 (yz.getD k 0 : Nat))) := h5
  have e0 := h5 0 SP
  rw [S0] at e0
  have e1 := h5 I hIL
  have e2 := h5 J hJL
  clear h1 h2 h4 h5 HU
  rw [Nat.add_zero] at e0
  have a1 := LOW.out (yz.getD I 0) (by rw [getD_get (by rw [HLL.out]; exact hIL)]; exact List.getElem_mem _)
  have a2 := LOW.out (yz.getD J 0) (by rw [getD_get (by rw [HLL.out]; exact hJL)]; exact List.getElem_mem _)
  have xo := u32_xor_nat (yz.getD I 0) (yz.getD J 0) a1 a2
  have QIN : Hid (yz.getD I 0 ^^^ yz.getD J 0 ∈ yz) := by
    rw [getD_get (show I < yz.length by rw [HLL.out]; exact hIL), getD_get (show J < yz.length by rw [HLL.out]; exact hJL)]
    exact SUMS.out _ (List.getElem_mem _) _ (List.getElem_mem _)
  have HOB : Hid (OwnU w2 (w2.alloc (.cells #[.int .u32 ((yz.getD I 0 ^^^ yz.getD J 0 : Nat) : Int)] 33)).drew (.slice (some ⟨w2.heap.size, 0, none⟩) 1 1) [yz.getD I 0 ^^^ yz.getD J 0]) := (owned_u w2 _).ext (ext_drew _)
  have HBY : Hid (Us (w2.alloc (.cells #[.int .u32 ((yz.getD I 0 ^^^ yz.getD J 0 : Nat) : Int)] 33)).drew ⟨a, c, g⟩) := HX.out.ext (X1.out.trans (((Ext.refl w2).alloc _).trans (ext_drew _)))
  have HYV : Hid (Value.slice a m c = (Um.mk a c g).v) := by show _ = _; simp only [Um.v]; rw [HMm.out]
  have HLN : Hid ([yz.getD I 0 ^^^ yz.getD J 0].length + g.length ≤ 100000) := by show _ ≤ _; rw [HMm.out]; simp; omega
  generalize yz.getD I 0 ^^^ yz.getD J 0 = q at *
  generalize yz.getD I 0 = A at *
  generalize yz.getD J 0 = D at *
  have Lp : ¬ L = 0 := by omega
  have iw : IntKind.i64.wrap (i : Int) = (i : Int) := IntWalk.i64_in _ ⟨by omega, by omega⟩
  have jw : IntKind.i64.wrap (j : Int) = (j : Int) := IntWalk.i64_in _ ⟨by omega, by omega⟩
  have IL : (I : Int) < (L : Int) := by omega
  have JL : (J : Int) < (L : Int) := by omega
  have Lz : ((L : Int) == 0) = false := by rw [beq_eq_false_iff_ne]; omega
  go_upto_region 6 with fail
  clear Lz
  go_cut [60, 61, 62] from 41 (fun s60 s61 s62 wx => ∃ (za : Option Addr) (zl zc : Nat), s60 = .slice za zl zc ∧ s61 = .int .i64 (zl : Nat) ∧ s62 = .int .i64 0 ∧ zl = m + 1 ∧ Aside (∃ z : Um, z.a = za ∧ z.c = zc ∧ z.z = [q] ++ g ∧ Us wx z) ∧ Aside (Ext w2 wx))
  case first =>
    go_region_law (refine step_appendUs rfl (.tmp 58) (.tmp 59) rfl w2 (.slice (some ⟨w2.heap.size, 0, none⟩) 1 1) (by rfl) [q] HOB.out ⟨a, c, g⟩ (.slice a m c) HYV.out (by rfl) HBY.out HLN.out ?_; intro z w3 O3 Z3 U3)
    all_goals
      simp only [Act.put, List.setIfInBounds_toArray]
      go_wp2
      go_meet
      case rel => exact ⟨z.a, z.z.length, z.c, rfl, rfl, rfl, by rw [Z3.out, List.length_append, HMm.out]; simp; omega, ⟨z, rfl, rfl, Z3.out, U3.out⟩, O3.out.1⟩
  case rest =>
    obtain ⟨za, zl, zc, rfl, rfl, rfl, hzl, AZ, EW⟩ := hcut
    obtain ⟨z, hza, hzc, hzz, hzu⟩ := AZ.out
    subst hza hzc
    have HZU : Hid (Us wc z ∧ z.z.length = zl) := ⟨hzu, by rw [hzz, List.length_append, HMm.out, hzl]; simp; omega⟩
    have ZIN : Hid (∀ k, k < zl → z.z.getD k 0 ∈ yz) := fun k hk => by
      have hk2 : k < z.z.length := by rw [HZU.out.2]; exact hk
      rw [getD_get hk2]
      have this := List.getElem_mem hk2
      obtain ⟨u, hu⟩ : ∃ u, z.z[k] = u := ⟨_, rfl⟩
      rw [hu] at this ⊢
      rw [hzz] at this
      have key : ∀ u, u ∈ [q] ++ g → u ∈ yz := fun u hu => by
        rcases List.mem_append.1 hu with h | h
        · simp at h; rw [h]; exact QIN.out
        · exact ROWS.out u h
      exact key u this
    have EX : Hid (Ext w wc) := X1.out.trans EW.out
    have H6 : Hid (∀ k, k < L → wc.cell? ⟨b, o + k, none⟩ = some (.int .u32 (yz.getD k 0 : Nat))) := fun k hk => EW.out.cell (H5.out k hk)
    have YIN : Hid (∀ r, r ∈ yz → ∃ k, k < L ∧ yz.getD k 0 = r) := fun r hr => by
      obtain ⟨k, hk, e⟩ := List.mem_iff_getElem.1 hr
      exact ⟨k, by rw [← HLL.out]; exact hk, by rw [getD_get hk]; exact e⟩
    obtain ⟨g1, g2, _, zb, zo, g4, g5⟩ := HZU.out.1
    rw [HZU.out.2] at g1 g4 g5
    have G5 : Hid (∀ k, k < zl → wc.cell? ⟨zb, zo + k, none⟩ = some (.int .u32 (z.z.getD k 0 : Nat))) := g5
    obtain ⟨za, zc, zz⟩ := z
    simp only at *
    have hz9 : zl ≤ 9 := by omega
    clear AZ EW hzz hzu HZU g1 g2 g5 H5 e0 e1 e2 xo HOB HBY HYV HLN QIN ROWS SUMS LOW iw jw Iz Jz
    obtain rfl := g4 (by omega)
    clear g4 hzl
    go_wp2
    go_loopg [62] zl (fun gg s62 wr => ∃ k : Nat, k ≤ zl ∧ zl - k ≤ gg ∧ s62 = .int .i64 k ∧ wr = wc)
    case atStart => exact ⟨0, Nat.zero_le _, by omega, rfl, rfl⟩
    case round =>
      obtain ⟨k, hk1, hgk, rfl, rfl⟩ := hrel
      by_cases hlt : k < zl
      · have hltz : (k : Int) < (zl : Int) := by omega
        have e1 := G5.out k hlt
        obtain ⟨t0, ht0, ht1⟩ := YIN.out _ (ZIN.out k hlt)
        have FND : Hid (hk yz (zz.getD k 0) L = true) := hk_yes ht0 ht1
        have HN : Hid (∀ t, hk yz (zz.getD k 0) (t + 1) = (hk yz (zz.getD k 0) t || (yz.getD t 0 == zz.getD k 0))) := fun _ => rfl
        have H0 : Hid (hk yz (zz.getD k 0) 0 = false) := rfl
        clear ht0 ht1 t0
        generalize zz.getD k 0 = r at *
        obtain ⟨wo, rfl⟩ : ∃ wo, wo = wr := ⟨_, rfl⟩
        go_wp2
        go_loopg [13, 68] L (fun gg s13 s68 wi => ∃ t : Nat, t ≤ L ∧ L - t ≤ gg ∧ s68 = .int .i64 t ∧ s13 = .bool (hk yz r t) ∧ wi = wo)
        case atStart => exact ⟨0, Nat.zero_le _, by omega, rfl, rfl, rfl⟩
        case round =>
          obtain ⟨t, ht, hgt, rfl, rfl, rfl⟩ := hrel
          by_cases hlt2 : t < L
          · have hltz2 : (t : Int) < (L : Int) := by omega
            have e2 := H6.out t hlt2
            have nx := HN.out t
            have eqn : ((yz.getD t 0 : Int) == (r : Int)) = (yz.getD t 0 == r) := by
              rw [Bool.eq_iff_iff, beq_iff_eq, beq_iff_eq]; omega
            generalize yz.getD t 0 = y at *
            cases hq : hk yz r t
            · have NX : Hid (hk yz r (t + 1) = (y == r)) := by show _ = _; rw [nx, hq]; rfl
              clear hq nx
              generalize (y == r) = bb at *
              go_wp2
              go_roundg (L - (t + 1))
              case measure => omega
              case rel => exact ⟨t + 1, by omega, by omega, by go_num, by rw [NX.out], rfl⟩
            · have NX : Hid (hk yz r (t + 1) = true) := by show _ = _; rw [nx, hq]; rfl
              clear hq nx eqn
              go_wp2
              go_roundg (L - (t + 1))
              case measure => omega
              case rel => exact ⟨t + 1, by omega, by omega, by go_num, by rw [NX.out], rfl⟩
          · obtain rfl : L = t := by omega
            have hltz2 : ¬ (L : Int) < (L : Int) := by omega
            rw [FND.out]
            clear FND HN H0
            go_wp2
            go_roundg (zl - (k + 1))
            case measure => omega
            case rel => exact ⟨k + 1, by omega, by omega, by go_num, rfl⟩
      · obtain rfl : k = zl := by omega
        have hltz : ¬ (k : Int) < (k : Int) := by omega
        go_wp2
        go_ret
        exact ⟨ret_bool (by simp), EX.out⟩

theorem spanClosed_walk (n : Int) (x : Um) (hb : ∀ y ∈ x.z, y < 4294967296) (i j : Int) (hi : 0 ≤ i ∧ i < 65536) (hj : 0 ≤ j ∧ j < 65536) (w : World) (hx : Us w x) :
    Calls Try.prog 7 #[.int .i64 n, x.v, .int .u16 i, .int .u16 j] w fun e w' => e = .returned (.bool true) ∧ Ext w w' := by
  by_cases h : re n x.z = 0
  · obtain ⟨m, rfl, h1, h2, h3⟩ := re_zero h
    obtain ⟨i, rfl⟩ := Int.eq_ofNat_of_zero_le hi.1
    obtain ⟨j, rfl⟩ := Int.eq_ofNat_of_zero_le hj.1
    exact spanClosed_good m h1 x h2 h3 i j (by omega) (by omega) w hx
  · exact spanClosed_bad n x hb h i j w hx

set_option maxRecDepth 100000 in
theorem spanClosed_lifted (os : Os) (started : os.Started) (H : Type) (enc : TypeId × Value → H) :
    ReturnsInHanded {} Try.checked os 7 .any (Rows.spanClosedSpec.pre6 enc Try.prog Try.f7 Rows.spanClosedRow.domain false) (Rows.spanClosedSpec.post enc Try.prog Try.f7 false true false false) := by
  refine returnsInHanded_of_change (C := Try.checked) own started (by kernel_rfl) Try.func7
    (ChangeSpec.witness6 (enc := enc) (C := Try.checked) false ⟨#[], #[.int .i64 0, .slice none 0 0, .int .u16 0, .int .u16 0], []⟩ 8 (by kernel_rfl) (by kernel_rfl) (by kernel_rfl) (by kernel_rfl)) ?_
  intro W base args ds gs before hval0 hW _ _
  have hval : ∀ (j : Nat) t v, Try.f7.params[j]? = some t → args[j]? = some v → Value.okWide Try.prog W .any base t v := hval0
  have hW' := hW
  obtain ⟨p, q, hA0, hV, rfl, hfz, hnd⟩ := hW
  have hA : DataW.TrodAll enc Try.prog W 0 (fun _ => true) true Try.f7.params.toList args.toList ds p := hA0
  rw [Try.params7] at hA hval
  obtain ⟨v0, vs0, d0, ds0, p0, q0, hargs, rfl, rfl, h0, r0⟩ := trodAll_cons hA
  obtain ⟨v1, vs1, d1, ds1, p1, q1, rfl, rfl, rfl, h1, r1⟩ := trodAll_cons r0
  obtain ⟨v2, vs2, d2, ds2, p2, q2, rfl, rfl, rfl, h2, r2⟩ := trodAll_cons r1
  obtain ⟨v3, vs3, d3, ds3, p3, q3, rfl, rfl, rfl, h3, r3⟩ := trodAll_cons r2
  obtain ⟨rfl, rfl, rfl⟩ := trodAll_nil r3
  obtain rfl : args = #[v0, v1, v2, v3] := by cases args; simp_all
  obtain ⟨rfl, rfl⟩ := trodVars_none hV
  have lt0 : ∀ x ∈ p0, x.block < W.heap.size := by obtain ⟨m, hm⟩ := h0; exact DataW.trod_lt m _ _ _ hm
  obtain ⟨x0, rfl, -, -, wf0⟩ := open_int Try.underlying3 (hval 0 3 v0 rfl rfl) h0
  have lt1 : ∀ x ∈ p1, x.block < W.heap.size := by obtain ⟨m, hm⟩ := h1; exact DataW.trod_lt m _ _ _ hm
  obtain ⟨x1, rfl, w1, b1⟩ := open_us (hval 1 22 v1 rfl rfl) h1
  have lt2 : ∀ x ∈ p2, x.block < W.heap.size := by obtain ⟨m, hm⟩ := h2; exact DataW.trod_lt m _ _ _ hm
  obtain ⟨x2, rfl, -, -, wf2⟩ := open_int Try.underlying42 (hval 2 42 v2 rfl rfl) h2
  have lt3 : ∀ x ∈ p3, x.block < W.heap.size := by obtain ⟨m, hm⟩ := h3; exact DataW.trod_lt m _ _ _ hm
  obtain ⟨x3, rfl, -, -, wf3⟩ := open_int Try.underlying42 (hval 3 42 v3 rfl rfl) h3
  clear hA0 hval0
  refine (spanClosed_walk x0 x1 b1 x2 x3 (u16_of wf2) (u16_of wf3) W w1).mono fun e W' ⟨he, bel⟩ => ?_
  subst he
  exact ⟨_, rfl, _, _, _, [], _, [], hW', trodAll_mk1 (shut_bool Try.underlying4 _), (trodAll_cons_mk (Below.trod laidOut (by kernel_rfl) (of_decide_eq_true (by kernel_rfl)) h0 bel lt0) (trodAll_cons_mk (Below.trod laidOut (by kernel_rfl) (of_decide_eq_true (by kernel_rfl)) h1 bel lt1) (trodAll_cons_mk (Below.trod laidOut (by kernel_rfl) (of_decide_eq_true (by kernel_rfl)) h2 bel lt2) (trodAll_cons_mk (Below.trod laidOut (by kernel_rfl) (of_decide_eq_true (by kernel_rfl)) h3 bel lt3) trodAll_mk0)))), rfl, bel.frame _, fun h => by cases h⟩

theorem spanClosed_holds : Rows.SpanClosedSaid :=
  OpenClaim.holds_of_wide 7 Try.f7 rfl rfl rfl rfl rfl rfl rfl ⟨rfl, rfl, rfl, rfl, rfl⟩ rfl rfl rfl rfl rfl (by kernel_rfl) Try.func7 (by kernel_rfl)
    (of_decide_eq_true (by kernel_rfl)) (by unfold Func.isWrapper; rw [if_neg (of_decide_eq_false (by kernel_rfl))]; exact ⟨rfl, rfl⟩)
    (fun os started H enc _ => spanClosed_lifted os started H enc)

#print axioms spanClosed_holds

end Go.Proofs.Ytdfjjjcaibadoaa
