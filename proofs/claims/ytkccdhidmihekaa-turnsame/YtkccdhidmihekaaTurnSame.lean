/-
  For any text that is turned: the last bytes are the same, and as many of each as it has: TurnSame returns true for every list of bytes and every number, and changes nothing.
-/
import Derived.Test.YtkccdhidmihekaaTd1
import Derived.Test.YtkccdhidmihekaaFs1
namespace Go.Proofs.Ytkccdhidmihekaa
open Go.ChangeShapes Go.WideShapes Go.ChangeAt Go.RowKit Go.Deep

theorem count_take_succ {l : List Int} {j : Nat} (h : j < l.length) (b : Int) : (l.take (j + 1)).count b = (l.take j).count b + (if l.getD j 0 == b then 1 else 0) := by
  rw [List.take_succ_eq_append_getElem h, List.count_append, List.count_cons, List.count_nil]
  simp [List.getD_eq_getElem?_getD, h]

theorem count_take_le (l : List Int) (j : Nat) (b : Int) : (l.take j).count b ≤ j := by
  have := List.count_le_length (a := b) (l := l.take j)
  rw [List.length_take] at this
  omega

set_option maxHeartbeats 2000000 in
theorem turnSame_large (x : Wd) (q : Int) (w : World) (hx : Bits w x) (h : 64 < x.l.length) : Calls Try.prog 8 #[x.v, .int .u8 q] w fun e w' => e = .returned (.bool true) ∧ Ext w w' := by
  have hp := turn_large x w hx h
  obtain ⟨a, c, l⟩ := x
  simp only [Wd.v] at *
  clear hx
  generalize l.length = n at *
  have hn : (n : Int) > 64 := by omega
  go_enter Try.func8, Try.ntmps8
  go_wp2_with fail
  refine hp.mono ?_
  rintro e w1 ⟨rfl, rfl⟩
  clear hp
  go_wp2
  go_ret
  exact ⟨rfl, Ext.refl _⟩

set_option maxHeartbeats 2000000 in
theorem turnSame_none (x : Wd) (q : Int) (w : World) (h : x.l.length = 0) : Calls Try.prog 8 #[x.v, .int .u8 q] w fun e w' => e = .returned (.bool true) ∧ Ext w w' := by
  have hp := turn_none x w h
  obtain ⟨a, c, l⟩ := x
  simp only [Wd.v] at *
  rw [h] at hp ⊢
  go_enter Try.func8, Try.ntmps8
  go_wp2_with fail
  refine hp.mono ?_
  rintro e w1 ⟨rfl, rfl⟩
  clear hp
  go_wp2
  go_ret
  exact ⟨rfl, Ext.refl _⟩

set_option maxRecDepth 100000 in
set_option maxHeartbeats 8000000 in
theorem turnSame_good (x : Wd) (qq : Nat) (w : World) (hx : Bits w x) (hb : InB x.l) (h0 : 0 < x.l.length) (h : x.l.length ≤ 64) (hq : qq < 256) : Calls Try.prog 8 #[x.v, .int .u8 (qq : Int)] w fun e w' => e = .returned (.bool true) ∧ Ext w w' := by
  have hp := turn_good x w hx hb h
  have HTU : Hid (∀ (y : Wd) W (i : Nat), Bits W y → i ≤ x.l.length → y.l = rot x.l i → Calls Try.prog 9 #[y.v] W fun e w' => ∃ z : Wd, e = .returned (.tuple #[z.v, .int .i64 (rk (rot x.l i) 0 : Int), .int .i64 0]) ∧ z.l = tl x.l ∧ Bits w' z ∧ Ext W w') := by
    intro y W i hy hi hyl
    have := turn_good y W hy (by rw [hyl]; exact inB_rot hb i) (by rw [hyl, rot_length]; exact h)
    rw [hyl, tl_rot hi h0] at this
    exact this
  have HS : Hid (∀ (y z : Wd) W, Bits W y → Bits W z → y.l = z.l → Calls Try.prog 11 #[y.v, z.v] W fun e w' => e = .returned (.bool true) ∧ Qt W w') := fun y z W hy hz he => by
    have := bytes_any y z W hy hz
    rw [he, beq_self_eq_true] at this
    exact this
  have HTL : Hid ((tl x.l).length = x.l.length) := tl_length _
  have HCN : Hid (∀ b, (tl x.l).count b = x.l.count b) := fun b => (tl_perm x.l).count_eq b
  obtain ⟨a, c, l⟩ := x
  have HX : Hid (Bits w ⟨a, c, l⟩) := hx
  obtain ⟨h1, h2, hz, b, o, h3, h4⟩ := hx
  simp only [Wd.v] at *
  obtain ⟨n, hn⟩ : ∃ n, l.length = n := ⟨_, rfl⟩
  have HN : Hid (l.length = n) := hn
  rw [hn] at h h0 h1 h3 h4 hp HTU HTL ⊢
  unfold maxLen at h2
  have H4 : Hid (∀ i, i < n → w.cell? ⟨b, o + i, none⟩ = some (.int .u8 (l.getD i 0))) := h4
  clear hn hz h4 hb
  obtain rfl := h3 h0
  clear h3
  have hn64 : ¬ ((n : Int) > 64) := by omega
  have hn0 : ((n : Int) == 0) = false := beq_eq_false_iff_ne.2 (by omega)
  obtain ⟨i, hi⟩ : ∃ i : Nat, i = qq % n := ⟨_, rfl⟩
  have hin : i < n := by rw [hi]; exact Nat.mod_lt _ h0
  have hiz : (qq : Int).tmod (n : Int) = (i : Int) := by rw [hi]; rfl
  generalize rk l 0 = r0 at *
  have HRT : Hid (l.drop i ++ l.take i = rot l i) := rfl
  have HD1 : Hid ((l.drop i).length = n - i) := by show _ = _; rw [List.length_drop, HN.out]
  have HD2 : Hid ((l.take i).length = i) := by show _ = _; rw [List.length_take, HN.out]; omega
  clear hi
  go_enter Try.func8, Try.ntmps8
  go_wp2_with fail
  refine hp.mono ?_
  rintro e w1 ⟨y, rfl, hyl, hy, E1⟩
  have HY : Hid (Bits w1 y) := hy
  obtain ⟨ya, yc, yl⟩ := y
  simp only at hyl
  subst hyl
  have HE1 : Hid (Ext w w1) := E1
  have hxw := HX.out.ext E1
  have HB1 : Hid (Bits w1.drew ⟨some ⟨b, o + i, none⟩, c - i, l.drop i⟩) := by
    have := hxw.sub (i := i) (n := n - i) (by rw [HN.out]; omega) (by omega)
    rw [List.take_of_length_le (by rw [List.length_drop, HN.out]; omega)] at this
    exact this.ext (ext_drew _)
  have HB2 : Hid (Bits w1.drew ⟨some ⟨b, o, none⟩, c, l.take i⟩) := (hxw.first (by rw [HN.out]; omega)).ext (ext_drew _)
  have E1d : Hid (Ext w1 w1.drew) := ext_drew _
  have hle : (i : Int) ≤ (n : Int) := by omega
  have hic : (i : Int) ≤ (c : Int) := by omega
  have hnc : (n : Int) ≤ (c : Int) := by omega
  have hci : ¬ c = i := by omega
  simp only
  rw [HTL.out]
  clear hp hy E1 hxw HX
  go_wp2
  refine wp_region_mix (fun _ => True) 17 (by rfl) (by kernel_rfl) ?_
  refine wpMix_take (v := .slice (some ⟨b, o, none⟩) n c) 1 (by rfl) (by kernel_rfl) ⟨by rfl, ?_⟩ ?_
  · rintro W -
    go_simp
  refine wpMix_take (v := .int .i64 i) 2 (by rfl) (by kernel_rfl) ⟨by rfl, ?_⟩ ?_
  · rintro W -
    go_simp
  refine wpMix_take (v := .slice (some ⟨b, o + i, none⟩) (n - i) (c - i)) 3 (by rfl) (by kernel_rfl) ⟨by rfl, ?_⟩ ?_
  · rintro W -
    go_simp
  refine wpMix_take (v := .slice (some ⟨b, o, none⟩) n c) 5 (by rfl) (by kernel_rfl) ⟨by rfl, ?_⟩ ?_
  · rintro W -
    go_simp
  refine wpMix_take (v := .int .i64 i) 6 (by rfl) (by kernel_rfl) ⟨by rfl, ?_⟩ ?_
  · rintro W -
    go_simp
  refine wpMix_take (v := .slice (some ⟨b, o, none⟩) i c) 7 (by rfl) (by kernel_rfl) ⟨by rfl, ?_⟩ ?_
  · rintro W -
    go_simp
  generalize w1.drew = W1 at *
  refine wpMix_only 0 (by kernel_rfl) trivial ?_
  refine mOp_value (v := .slice (some ⟨W1.heap.size, 0, none⟩) 0 0) (w' := W1.alloc (.cells #[] 5)) (by rfl) (by rfl) ?_ ?_
  · go_simp
  have O2 : Hid (OwnB W1 (W1.alloc (.cells #[] 5)) (.slice (some ⟨W1.heap.size, 0, none⟩) 0 0) []) := OwnB.noneMade W1
  generalize W1.alloc (.cells #[] 5) = W2 at *
  generalize Value.slice (some ⟨W1.heap.size, 0, none⟩) 0 0 = v2 at *
  obtain ⟨v3, W3, hrun3, O3⟩ := run_appendBits 22 W1 W2 v2 [] O2.out ⟨b, o + i, none⟩ (c - i) (l.drop i) (HB1.out.ext O2.out.1) (by rw [HD1.out]; simp; omega)
  rw [HD1.out] at hrun3
  refine wpMix_only 4 (by kernel_rfl) trivial ?_
  refine mOp_value (v := v3) (w' := W3) (by rfl) (by rfl) ?_ ?_
  · exact exec_append _ _ (.tmp 44) (.tmp 47) 22 (by rfl) v2 (.slice (some ⟨b, o + i, none⟩) (n - i) (c - i)) v3 W2 W3 (by simp [Act.eval, Act.put]) (by simp [Act.eval, Act.put]) hrun3
  obtain ⟨v4, W4, hrun4, O4⟩ := run_appendBits 22 W1 W3 v3 ([] ++ l.drop i) O3 ⟨b, o, none⟩ c (l.take i) (HB2.out.ext O3.1) (by rw [List.nil_append, HD1.out, HD2.out]; omega)
  rw [HD2.out] at hrun4
  refine wpMix_only 8 (by kernel_rfl) trivial ?_
  refine mOp_value (v := v4) (w' := W4) (by rfl) (by rfl) ?_ ?_
  · exact exec_append _ _ (.tmp 48) (.tmp 51) 22 (by rfl) v3 (.slice (some ⟨b, o, none⟩) i c) v4 W3 W4 (by simp [Act.eval, Act.put]) (by simp [Act.eval, Act.put]) hrun4
  obtain ⟨u, rfl, hul, hub⟩ := O4.bits
  have hct := HTU.out u W4 i hub (by omega) (by rw [hul, List.nil_append]; exact HRT.out)
  generalize rk (rot l i) 0 = r1 at *
  have E4 : Hid (Ext w1 W4) := E1d.out.trans O4.1
  clear hrun3 hrun4 O2 O3 O4 HB1 HB2 hub hul HTU E1d
  refine wpMix_only 9 (by kernel_rfl) trivial ?_
  refine mOp_call (f := 9) (args := #[u.v]) (w' := W4) (by rfl) (by rfl) ?_ ?_
  · go_simp
  refine hct.mono ?_
  rintro e W5 ⟨z, rfl, hzl, hz, E5⟩
  refine ⟨_, rfl, ?_⟩
  obtain ⟨za, zc, zl⟩ := z
  simp only at hzl
  subst hzl
  have HZ : Hid (Bits W5 ⟨za, zc, tl l⟩) := hz
  have E15 : Hid (Ext w1 W5) := E4.out.trans E5
  clear hct hz E5 E4
  refine wpMix_take (v := .tuple #[.slice za (tl l).length zc, .int .i64 (r1 : Int), .int .i64 0]) 10 (by rfl) (by kernel_rfl) ⟨by rfl, ?_⟩ ?_
  · rintro W -
    go_simp
  refine wpMix_take (v := .slice za (tl l).length zc) 11 (by rfl) (by kernel_rfl) ⟨by rfl, ?_⟩ ?_
  · rintro W -
    go_simp
  refine wpMix_take (v := .int .i64 (r1 : Int)) 12 (by rfl) (by kernel_rfl) ⟨by rfl, ?_⟩ ?_
  · rintro W -
    go_simp
  refine wpMix_take (v := .int .i64 0) 13 (by rfl) (by kernel_rfl) ⟨by rfl, ?_⟩ ?_
  · rintro W -
    go_simp
  refine wpMix_take (v := .slice za (tl l).length zc) 14 (by rfl) (by kernel_rfl) ⟨by rfl, ?_⟩ ?_
  · rintro W -
    go_simp
  refine wpMix_take (v := .int .i64 (r1 : Int)) 15 (by rfl) (by kernel_rfl) ⟨by rfl, ?_⟩ ?_
  · rintro W -
    go_simp
  refine wpMix_take (v := .int .i64 0) 16 (by rfl) (by kernel_rfl) ⟨by rfl, ?_⟩ ?_
  · rintro W -
    go_simp
  refine wpMix_done (by kernel_rfl) trivial ?_
  simp only [Act.put, List.setIfInBounds_toArray, List.set_cons_zero, List.set_cons_succ]
  have hs := HS.out ⟨ya, yc, tl l⟩ ⟨za, zc, tl l⟩ W5 (HY.out.ext E15.out) HZ.out rfl
  simp only at hs
  rw [HTL.out] at hs ⊢
  clear HS HZ
  go_wp2_with fail
  refine hs.mono ?_
  rintro e w3 ⟨rfl, hw3⟩
  have HE3 : Hid (Ext w w3) := (HE1.out.trans E15.out).trans hw3.ext
  have HY3 : Hid (Bits w3 ⟨ya, yc, tl l⟩) := HY.out.ext (E15.out.trans hw3.ext)
  clear hs hw3 E15 HE1 HY
  obtain ⟨k1, k2, k0, b2, o2, k3, k4⟩ := HY3.out
  simp only at k1 k2 k3 k4
  rw [HTL.out] at k1 k3 k4
  unfold maxLen at k2
  obtain rfl := k3 h0
  have K4 : Hid (∀ i, i < n → w3.cell? ⟨b2, o2 + i, none⟩ = some (.int .u8 ((tl l).getD i 0))) := k4
  have X4 : Hid (∀ i, i < n → w3.cell? ⟨b, o + i, none⟩ = some (.int .u8 (l.getD i 0))) := fun i hi => HE3.out.cell (H4.out i hi)
  clear HY3 k0 k3 k4 H4
  go_wp2
  go_loopg [13, 14, 15, 16, 78] n (fun gg _ _ _ _ s wr => wr = w3 ∧ ∃ k : Nat, k ≤ n ∧ n - k ≤ gg ∧ s = .int .i64 k)
  case atStart => exact ⟨rfl, 0, by omega, by omega, rfl⟩
  case round =>
    obtain ⟨hwr, k, hk, hgg, rfl⟩ := hrel
    subst hwr
    by_cases hlt : k < n
    · have hltz : (k : Int) < (n : Int) := by omega
      have e1 := X4.out k hlt
      generalize l.getD k 0 = bb at e1
      obtain ⟨wo, hwo⟩ : ∃ wo, wo = wr := ⟨_, rfl⟩
      subst hwo
      go_wp2
      go_loopg [14, 15, 16] n (fun gg s14 s15 s16 wq => wq = wo ∧ ∃ (j p q : Nat), j ≤ n ∧ n - j ≤ gg ∧ p ≤ j ∧ q ≤ j ∧ s16 = .int .i64 j ∧ s14 = .int .i64 p ∧ s15 = .int .i64 q ∧ Aside (p = (l.take j).count bb ∧ q = ((tl l).take j).count bb))
      case atStart => exact ⟨rfl, 0, 0, 0, by omega, by omega, by omega, by omega, rfl, rfl, rfl, by simp, by simp⟩
      case round =>
        obtain ⟨hwq, j, p, q, hj, hgg2, hpj, hqj, rfl, rfl, rfl, A⟩ := hrel
        subst hwq
        by_cases hjl : j < n
        · have hjz : (j : Int) < (n : Int) := by omega
          have e2 := X4.out j hjl
          have e3 := K4.out j hjl
          have c1 : Hid ((l.take (j + 1)).count bb = (l.take j).count bb + (if l.getD j 0 == bb then 1 else 0)) := count_take_succ (by rw [HN.out]; exact hjl) bb
          have c2 : Hid (((tl l).take (j + 1)).count bb = ((tl l).take j).count bb + (if (tl l).getD j 0 == bb then 1 else 0)) := count_take_succ (by rw [HTL.out]; exact hjl) bb
          generalize l.getD j 0 = g1 at *
          generalize (tl l).getD j 0 = g2 at *
          cases hg1 : (g1 == bb) with
          | false =>
            cases hg2 : (g2 == bb) with
            | false =>
              have N1 : Hid (p = (l.take (j + 1)).count bb ∧ q = ((tl l).take (j + 1)).count bb) := by
                refine ⟨?_, ?_⟩
                · rw [c1.out, hg1, ← A.out.1]; simp
                · rw [c2.out, hg2, ← A.out.2]; simp
              clear c1 c2 A X4 K4
              go_wp2
              go_roundg (n - (j + 1))
              case measure => omega
              case rel => exact ⟨rfl, j + 1, p, q, by omega, by omega, by omega, by omega, by go_num, rfl, rfl, N1.out⟩
            | true =>
              have N1 : Hid (p = (l.take (j + 1)).count bb ∧ q + 1 = ((tl l).take (j + 1)).count bb) := by
                refine ⟨?_, ?_⟩
                · rw [c1.out, hg1, ← A.out.1]; simp
                · rw [c2.out, hg2, ← A.out.2]; simp
              clear c1 c2 A X4 K4
              go_wp2
              go_roundg (n - (j + 1))
              case measure => omega
              case rel => exact ⟨rfl, j + 1, p, q + 1, by omega, by omega, by omega, by omega, by go_num, rfl, by go_num, N1.out⟩
          | true =>
            cases hg2 : (g2 == bb) with
            | false =>
              have N1 : Hid (p + 1 = (l.take (j + 1)).count bb ∧ q = ((tl l).take (j + 1)).count bb) := by
                refine ⟨?_, ?_⟩
                · rw [c1.out, hg1, ← A.out.1]; simp
                · rw [c2.out, hg2, ← A.out.2]; simp
              clear c1 c2 A X4 K4
              go_wp2
              go_roundg (n - (j + 1))
              case measure => omega
              case rel => exact ⟨rfl, j + 1, p + 1, q, by omega, by omega, by omega, by omega, by go_num, by go_num, rfl, N1.out⟩
            | true =>
              have N1 : Hid (p + 1 = (l.take (j + 1)).count bb ∧ q + 1 = ((tl l).take (j + 1)).count bb) := by
                refine ⟨?_, ?_⟩
                · rw [c1.out, hg1, ← A.out.1]; simp
                · rw [c2.out, hg2, ← A.out.2]; simp
              clear c1 c2 A X4 K4
              go_wp2
              go_roundg (n - (j + 1))
              case measure => omega
              case rel => exact ⟨rfl, j + 1, p + 1, q + 1, by omega, by omega, by omega, by omega, by go_num, by go_num, by go_num, N1.out⟩
        · have hpq : p = q := by
            have t1 : l.take j = l := List.take_of_length_le (by rw [HN.out]; omega)
            have t2 : (tl l).take j = tl l := List.take_of_length_le (by rw [HTL.out]; omega)
            have := A.out
            rw [t1, t2, HCN.out] at this
            omega
          subst hpq
          have hne : ((p : Int) != (p : Int)) = false := by simp
          clear A X4 K4
          go_wp2
          go_roundg (n - (k + 1))
          case measure => omega
          case rel => exact ⟨rfl, k + 1, by omega, by omega, by go_num⟩
    · go_wp2
      go_ret
      exact ⟨rfl, HE3.out⟩

theorem turnSame_walk (x : Wd) (q : Int) (w : World) (hx : Bits w x) (hb : Byt x.l) (hq : (Lit.int .u8 q).wf = true) : Calls Try.prog 8 #[x.v, .int .u8 q] w fun e w' => e = .returned (.bool true) ∧ Ext w w' := by
  by_cases h : 64 < x.l.length
  · exact turnSame_large x q w hx h
  · rcases Nat.eq_zero_or_pos x.l.length with h0 | h0
    · exact turnSame_none x q w h0
    · have hq2 : InB [q] := byt_in (fun y hy => by
        have : y = q := by simpa using hy
        rw [this]
        exact hq)
      have := mem_a256.1 (hq2 q (by simp))
      obtain ⟨qq, rfl⟩ := Int.eq_ofNat_of_zero_le this.1
      exact turnSame_good x qq w hx (byt_in hb) h0 (by omega) (by omega)

set_option maxRecDepth 100000 in
theorem turnSame_lifted (os : Os) (started : os.Started) (H : Type) (enc : TypeId × Value → H) :
    ReturnsInHanded {} Try.checked os 8 .any (Rows.turnSameSpec.pre6 enc Try.prog Try.f8 Rows.turnSameRow.domain false) (Rows.turnSameSpec.post enc Try.prog Try.f8 false true false false) := by
  refine returnsInHanded_of_change (C := Try.checked) own started (by kernel_rfl) Try.func8
    (ChangeSpec.witness6 (enc := enc) (C := Try.checked) false ⟨#[], #[.slice none 0 0, .int .u8 0], []⟩ 8 (by kernel_rfl) (by kernel_rfl) (by kernel_rfl) (by kernel_rfl)) ?_
  intro W base args ds gs before hval0 hW _ _
  have hval : ∀ (j : Nat) t v, Try.f8.params[j]? = some t → args[j]? = some v → Value.okWide Try.prog W .any base t v := hval0
  have hW' := hW
  obtain ⟨p, q, hA0, hV, rfl, hfz, hnd⟩ := hW
  have hA : DataW.TrodAll enc Try.prog W 0 (fun _ => true) true Try.f8.params.toList args.toList ds p := hA0
  rw [Try.params8] at hA hval
  obtain ⟨v0, vs0, d0, ds0, p0, q0, hargs, rfl, rfl, h0, r0⟩ := trodAll_cons hA
  obtain ⟨v1, vs1, d1, ds1, p1, q1, rfl, rfl, rfl, h1, r1⟩ := trodAll_cons r0
  obtain ⟨rfl, rfl, rfl⟩ := trodAll_nil r1
  obtain rfl : args = #[v0, v1] := by cases args; simp_all
  obtain ⟨rfl, rfl⟩ := trodVars_none hV
  have lt0 : ∀ x ∈ p0, x.block < W.heap.size := by obtain ⟨m, hm⟩ := h0; exact DataW.trod_lt m _ _ _ hm
  obtain ⟨x0, rfl, w0, y0, z0⟩ := open_word (hval 0 22 v0 rfl rfl) h0
  have lt1 : ∀ x ∈ p1, x.block < W.heap.size := by obtain ⟨m, hm⟩ := h1; exact DataW.trod_lt m _ _ _ hm
  obtain ⟨x1, rfl, -, -, wf1⟩ := open_int Try.underlying5 (hval 1 5 v1 rfl rfl) h1
  clear hA0 hval0
  refine (turnSame_walk x0 x1 W w0 y0 wf1).mono fun e W' ⟨he, bel⟩ => ?_
  subst he
  exact ⟨_, rfl, _, _, _, [], _, [], hW', trodAll_mk1 (shut_bool Try.underlying4 _), (trodAll_cons_mk (Below.trod laidOut (by kernel_rfl) (of_decide_eq_true (by kernel_rfl)) h0 bel lt0) (trodAll_cons_mk (Below.trod laidOut (by kernel_rfl) (of_decide_eq_true (by kernel_rfl)) h1 bel lt1) trodAll_mk0)), rfl, bel.frame _, fun h => by cases h⟩

theorem turnSame_holds : Rows.TurnSameSaid :=
  OpenClaim.holds_of_wide 8 Try.f8 rfl rfl rfl rfl rfl rfl rfl ⟨rfl, rfl, rfl, rfl, rfl⟩ rfl rfl rfl rfl rfl (by kernel_rfl) Try.func8 (by kernel_rfl)
    (of_decide_eq_true (by kernel_rfl)) (by unfold Func.isWrapper; rw [if_neg (of_decide_eq_false (by kernel_rfl))]; exact ⟨rfl, rfl⟩)
    (fun os started H enc _ => turnSame_lifted os started H enc)

#print axioms turnSame_holds

end Go.Proofs.Ytkccdhidmihekaa
