/-
  quipuref.Turned: the last bytes of the turns, each laid at the place that tells how many come ahead of it.
-/
import Derived.Test.YtkccdhidmihekaaTd1
namespace Go.Proofs.Ytkccdhidmihekaa
open Go.RowKit

theorem rk_inj {t : List Int} {i j : Nat} (hi : i < t.length) (hj : j < t.length) (h : rk t i = rk t j) : i = j := by
  obtain ⟨S, hp, hs⟩ := exists_sorted (ky t) t.length
  rw [← idx_rk hp hs hi, ← idx_rk hp hs hj] at h
  have h1 : (i : Int) ∈ S := hp.symm.subset (mem_upI.2 (by omega))
  have h2 : (j : Int) ∈ S := hp.symm.subset (mem_upI.2 (by omega))
  have e1 := List.getElem_idxOf (List.idxOf_lt_length_iff.2 h1)
  have e2 := List.getElem_idxOf (List.idxOf_lt_length_iff.2 h2)
  have : (i : Int) = (j : Int) := by
    rw [← e1, ← e2]
    simp only [h]
  omega

/-- Does one turn come ahead of another one? -/
def dd (t : List Int) (i j : Nat) : Bool := ah (rot t j) (rot t i) || (rot t j == rot t i && decide (j < i))
theorem rk_dd (t : List Int) (i : Nat) : (List.range t.length).countP (dd t i) = rk t i := rfl

theorem countP_range_succ (d : Nat → Bool) (j : Nat) : (List.range (j + 1)).countP d = (List.range j).countP d + (if d j then 1 else 0) := by
  rw [List.range_succ, List.countP_append, List.countP_cons, List.countP_nil]
  omega
theorem countP_range_le (d : Nat → Bool) (j : Nat) : (List.range j).countP d ≤ j := by
  have := List.countP_le_length (p := d) (l := List.range j)
  simpa using this

/-- What has been laid so far. -/
structure Laid (t O : List Int) (i : Nat) : Prop where
  len : O.length = t.length
  at_ : ∀ k, k < i → O.getD (rk t k) 0 = lst (rot t k)

theorem Laid.next {t O : List Int} {i : Nat} (h : Laid t O i) (hi : i < t.length) : Laid t (O.set (rk t i) (lst (rot t i))) (i + 1) := by
  refine ⟨by rw [List.length_set, h.len], fun k hk => ?_⟩
  have hr := rk_lt hi
  rcases Nat.lt_succ_iff_lt_or_eq.1 hk with h1 | h1
  · have hne : rk t i ≠ rk t k := fun e => by have := rk_inj hi (by omega) e; omega
    have := h.at_ k h1
    rw [← this]
    simp only [List.getD_eq_getElem?_getD]
    rw [List.getElem?_set_ne hne]
  · subst h1
    have : rk t k < O.length := by rw [h.len]; exact hr
    simp [List.getD_eq_getElem?_getD, this]

set_option maxRecDepth 100000 in
set_option maxHeartbeats 8000000 in
theorem turned_any (x : Wd) (w : World) (hx : Bits w x) (h : x.l.length ≤ 64) :
    Calls Try.prog 10 #[x.v] w fun e w' => ∃ y : Wd, e = .returned (.tuple #[y.v, .int .i64 (rk x.l 0 : Int)]) ∧ y.l = tl x.l ∧ Bits w' y ∧ Ext w w' := by
  obtain ⟨a, c, l⟩ := x
  have HX : Hid (Bits w ⟨a, c, l⟩) := hx
  obtain ⟨h1, h2, hz, b, o, h3, h4⟩ := hx
  simp only [Wd.v] at *
  obtain ⟨n, hn⟩ : ∃ n, l.length = n := ⟨_, rfl⟩
  have HN : Hid (l.length = n) := hn
  rw [hn] at h h1 h3 ⊢
  unfold maxLen at h2
  clear hn hz h4
  have hmk := run_make_row' (P := Try.prog) 22 5 (.int .u8 0) 1 Try.underlying22 info5 rfl .i64 .i64 n (by omega) (by omega)
  have M0 : Hid (TL l w w (.slice none 0 0) 0) := ⟨[], LW.nil w, rfl⟩
  go_enter Try.func10, Try.ntmps10
  go_wp2
  go_loopg [5, 6] n (fun gg s5 s6 wr => ∃ (k vc : Nat) (va : Option Addr), k ≤ n ∧ n - k ≤ gg ∧ s6 = .int .i64 k ∧ s5 = .slice va k vc ∧ Aside (TL l w wr (.slice va k vc) k))
  case atStart => exact ⟨0, 0, none, by omega, by omega, rfl, rfl, M0.out⟩
  case round =>
    obtain ⟨i, vc, va, hi, hgg, rfl, rfl, A⟩ := hrel
    clear M0
    by_cases hlt : i < n
    · have hltz : (i : Int) < (n : Int) := by omega
      obtain rfl := h3 (by omega)
      have hle : (i : Int) ≤ (n : Int) := by omega
      have hic : (i : Int) ≤ (c : Int) := by omega
      have hnc : (n : Int) ≤ (c : Int) := by omega
      have hci : ¬ c = i := by omega
      have hxw : Bits wr ⟨some ⟨b, o, none⟩, c, l⟩ := by
        obtain ⟨X, hX, _⟩ := A.out
        exact HX.out.ext hX.ext
      have HB1 : Hid (Bits wr.drew ⟨some ⟨b, o + i, none⟩, c - i, l.drop i⟩) := by
        have := hxw.sub (i := i) (n := n - i) (by rw [HN.out]; omega) (by omega)
        rw [List.take_of_length_le (by rw [List.length_drop, HN.out]; omega)] at this
        exact this.ext (ext_drew _)
      have HB2 : Hid (Bits wr.drew ⟨some ⟨b, o, none⟩, c, l.take i⟩) := (hxw.first (by rw [HN.out]; omega)).ext (ext_drew _)
      have A1 : Hid (TL l w wr.drew (.slice va i vc) i) := by
        obtain ⟨X, hX, hT⟩ := A.out
        exact ⟨X, hX.mono (ext_drew _), hT⟩
      have HD1 : Hid ((l.drop i).length = n - i) := by show _ = _; rw [List.length_drop, HN.out]
      have HD2 : Hid ((l.take i).length = i) := by show _ = _; rw [List.length_take, HN.out]; omega
      clear A hxw h3
      go_wp2
      refine wp_region_mix (fun _ => True) 13 (by rfl) (by kernel_rfl) ?_
      refine wpMix_take (v := .slice va i vc) 0 (by rfl) (by kernel_rfl) ⟨by rfl, ?_⟩ ?_
      · rintro W -
        go_simp
      refine wpMix_take (v := .slice (some ⟨b, o, none⟩) n c) 2 (by rfl) (by kernel_rfl) ⟨by rfl, ?_⟩ ?_
      · rintro W -
        go_simp
      refine wpMix_take (v := .int .i64 i) 3 (by rfl) (by kernel_rfl) ⟨by rfl, ?_⟩ ?_
      · rintro W -
        go_simp
      refine wpMix_take (v := .slice (some ⟨b, o + i, none⟩) (n - i) (c - i)) 4 (by rfl) (by kernel_rfl) ⟨by rfl, ?_⟩ ?_
      · rintro W -
        go_simp
      refine wpMix_take (v := .slice (some ⟨b, o, none⟩) n c) 6 (by rfl) (by kernel_rfl) ⟨by rfl, ?_⟩ ?_
      · rintro W -
        go_simp
      refine wpMix_take (v := .int .i64 i) 7 (by rfl) (by kernel_rfl) ⟨by rfl, ?_⟩ ?_
      · rintro W -
        go_simp
      refine wpMix_take (v := .slice (some ⟨b, o, none⟩) i c) 8 (by rfl) (by kernel_rfl) ⟨by rfl, ?_⟩ ?_
      · rintro W -
        go_simp
      generalize wr.drew = W1 at *
      refine wpMix_only 1 (by kernel_rfl) trivial ?_
      refine mOp_value (v := .slice (some ⟨W1.heap.size, 0, none⟩) 0 0) (w' := W1.alloc (.cells #[] 5)) (by rfl) (by rfl) ?_ ?_
      · go_simp
      have O2 : Hid (OwnB W1 (W1.alloc (.cells #[] 5)) (.slice (some ⟨W1.heap.size, 0, none⟩) 0 0) []) := OwnB.noneMade W1
      generalize W1.alloc (.cells #[] 5) = W2 at *
      generalize Value.slice (some ⟨W1.heap.size, 0, none⟩) 0 0 = v2 at *
      obtain ⟨v3, W3, hrun3, O3⟩ := run_appendBits 22 W1 W2 v2 [] O2.out ⟨b, o + i, none⟩ (c - i) (l.drop i) (HB1.out.ext O2.out.1) (by rw [HD1.out]; simp; omega)
      rw [HD1.out] at hrun3
      refine wpMix_only 5 (by kernel_rfl) trivial ?_
      refine mOp_value (v := v3) (w' := W3) (by rfl) (by rfl) ?_ ?_
      · exact exec_append _ _ (.tmp 20) (.tmp 23) 22 (by rfl) v2 (.slice (some ⟨b, o + i, none⟩) (n - i) (c - i)) v3 W2 W3 (by simp [Act.eval, Act.put]) (by simp [Act.eval, Act.put]) hrun3
      obtain ⟨v4, W4, hrun4, O4⟩ := run_appendBits 22 W1 W3 v3 ([] ++ l.drop i) O3 ⟨b, o, none⟩ c (l.take i) (HB2.out.ext O3.1) (by rw [List.nil_append, HD1.out, HD2.out]; omega)
      rw [HD2.out] at hrun4
      refine wpMix_only 9 (by kernel_rfl) trivial ?_
      refine mOp_value (v := v4) (w' := W4) (by rfl) (by rfl) ?_ ?_
      · exact exec_append _ _ (.tmp 24) (.tmp 27) 22 (by rfl) v3 (.slice (some ⟨b, o, none⟩) i c) v4 W3 W4 (by simp [Act.eval, Act.put]) (by simp [Act.eval, Act.put]) hrun4
      obtain ⟨u, rfl, hul, hub, -⟩ := O4.lb
      obtain ⟨X, hX, hT⟩ := A1.out
      have hX4 := hX.mono O4.1
      have HXL : Hid (X.length = i) := hX.w.len
      refine wpMix_only 10 (by kernel_rfl) trivial ?_
      refine mOp_value (v := .slice (some ⟨W4.heap.size, 0, none⟩) 1 1) (w' := W4.alloc (.cells #[u.v] 22)) (by rfl) (by rfl) ?_ ?_
      · go_simp
      obtain ⟨a', c', W5, hrun, hX5, -, -⟩ := run_appendLW 45 w W4 (.slice va i vc) X hX4 u hub (by rw [HXL.out]; omega)
      rw [HXL.out] at hrun hX5
      refine wpMix_only 11 (by kernel_rfl) trivial ?_
      refine mOp_value (v := .slice a' (i + 1) c') (w' := W5) (by rfl) (by rfl) ?_ ?_
      · exact exec_append _ _ (.tmp 19) (.tmp 29) 45 (by rfl) (.slice va i vc) (.slice (some ⟨W4.heap.size, 0, none⟩) 1 1) _ _ W5 (by simp [Act.eval, Act.put]) (by simp [Act.eval, Act.put]) hrun
      have F : Hid (TL l w W5 (.slice a' (i + 1) c') (i + 1)) := ⟨_, hX5, by rw [List.map_append, hT, List.range_succ, List.map_append]; simp [hul, rot]⟩
      clear hrun hX5 hX4 hX hT hrun3 hrun4 O2 O3 O4 A1 HB1 HB2 hub hul
      refine wpMix_lastv (v := .slice a' (i + 1) c') (w' := W5) 12 (by kernel_rfl) (by kernel_rfl) (by rfl) (by rfl) trivial ?_ trivial ?_
      · go_simp
      simp only [Act.put, List.setIfInBounds_toArray, List.set_cons_zero, List.set_cons_succ]
      go_wp2
      go_roundg (n - (i + 1))
      case measure => omega
      case rel => exact ⟨i + 1, c', a', by omega, by omega, by go_num, rfl, F.out⟩
    · have hin : i = n := by omega
      subst hin
      have HT : Hid (∀ j, j < i → ∃ G za zc, va = some ⟨G, 0, none⟩ ∧ wr.cell? ⟨G, j, none⟩ = some (.slice za i zc) ∧ Bits wr ⟨za, zc, rot l j⟩) := by
        intro j hj
        have := A.out.at hj
        rw [HN.out] at this
        exact this
      have HE1 : Hid (Ext w wr) := by
        obtain ⟨X, hX, _⟩ := A.out
        exact hX.ext
      clear A h3 h1 h2 HX
      obtain ⟨w1, hw1⟩ : ∃ w1, w1 = wr := ⟨_, rfl⟩
      subst hw1
      obtain ⟨W0, hW0⟩ : ∃ W0, W0 = w1.alloc (.cells (madeCells #[.int .u8 0] i) 5) := ⟨_, rfl⟩
      have L0 : Hid (∃ O, Row W0 w1.heap.size 5 (bv O) ∧ Laid l O 0) := by
        rw [hW0]
        refine ⟨List.replicate i 0, ?_, ⟨by rw [List.length_replicate, HN.out], fun k hk => by omega⟩⟩
        have := Row.made w1 5 (.int .u8 0) i
        show Row _ _ _ _
        simpa using this
      have ME : Hid (Ext w1 W0) := by rw [hW0]; exact (Ext.refl w1).alloc _
      go_wp2
      rw [← hW0]
      clear hW0 hmk hlt
      have HAH : Hid (∀ (x y : Wd) W, Bits W x → Bits W y → x.l.length = y.l.length → Calls Try.prog 21 #[x.v, y.v] W fun e w' => e = .returned (.bool (ah x.l y.l)) ∧ ∃ m, w' = W.drewN m) := ahead_any
      have HEQ : Hid (∀ (x y : Wd) W, Bits W x → Bits W y → Calls Try.prog 11 #[x.v, y.v] W fun e w' => e = .returned (.bool (x.l == y.l)) ∧ Qt W w') := bytes_any
      go_loopg [8, 9, 10, 11] i (fun gg s8 s9 _ _ wr => ∃ (k av : Nat), k ≤ i ∧ i - k ≤ gg ∧ s9 = .int .i64 k ∧ s8 = .int .i64 av ∧ Aside (Ext w1 wr) ∧ Aside (∃ O, Row wr w1.heap.size 5 (bv O) ∧ Laid l O k) ∧ Aside ((k = 0 ∧ av = 0) ∨ (0 < k ∧ av = rk l 0)))
      case atStart => exact ⟨0, 0, by omega, by omega, rfl, rfl, ME.out, L0.out, .inl ⟨rfl, rfl⟩⟩
      case round =>
        obtain ⟨k, av, hk, hgg2, rfl, rfl, BW, A, AV⟩ := hrel
        clear ME L0
        by_cases hlt : k < i
        · have hltz : (k : Int) < (i : Int) := by omega
          obtain ⟨G, ka, kc, rfl, hck, hbk⟩ := HT.out k hlt
          have HCK : Hid (w1.cell? ⟨G, k, none⟩ = some (.slice ka i kc)) := hck
          have HBK : Hid (Bits w1 ⟨ka, kc, rot l k⟩) := hbk
          have HT2 : Hid (∀ j, j < i → ∃ za zc, w1.cell? ⟨G, j, none⟩ = some (.slice za i zc) ∧ Bits w1 ⟨za, zc, rot l j⟩) := by
            intro j hj
            obtain ⟨G', za, zc, e, c1, c2⟩ := HT.out j hj
            injection e with e
            injection e with e
            subst e
            exact ⟨za, zc, c1, c2⟩
          have HA : Hid (∃ O, Row wr w1.heap.size 5 (bv O) ∧ Laid l O k) := A.out
          have HAV : Hid ((k = 0 ∧ av = 0) ∨ (0 < k ∧ av = rk l 0)) := AV.out
          clear hck hbk A AV
          obtain ⟨wo, hwo⟩ : ∃ wo, wo = wr := ⟨_, rfl⟩
          subst hwo
          go_wp2
          go_loopg [10, 11] i (fun gg s10 s11 wq => ∃ (j q : Nat), j ≤ i ∧ i - j ≤ gg ∧ q ≤ j ∧ s11 = .int .i64 j ∧ s10 = .int .i64 q ∧ Aside (Qt wo wq) ∧ Aside (q = (List.range j).countP (dd l k)))
          case atStart => exact ⟨0, 0, by omega, by omega, by omega, rfl, rfl, Qt.refl _, by show 0 = _; simp⟩
          case round =>
            obtain ⟨j, q, hj, hgg3, hqj, rfl, rfl, BQ, AQ⟩ := hrel
            by_cases hjl : j < i
            · have hjz : (j : Int) < (i : Int) := by omega
              obtain ⟨za, zc, hcj, hbj⟩ := HT2.out j hjl
              have EQ : Ext w1 wr := BW.out.trans BQ.out.ext
              have e1 := EQ.cell hcj
              have e2 := EQ.cell HCK.out
              have hah : Hid (∀ W, Qt wr W → Calls Try.prog 21 #[.slice za i zc, .slice ka i kc] W fun e w' => e = .returned (.bool (ah (rot l j) (rot l k))) ∧ ∃ m, w' = W.drewN m) := by
                intro W hW
                have := HAH.out ⟨za, zc, rot l j⟩ ⟨ka, kc, rot l k⟩ W (hbj.ext (EQ.trans hW.ext)) (HBK.out.ext (EQ.trans hW.ext)) (by simp only; rw [rot_length, rot_length])
                simp only [Wd.v] at this
                rw [rot_length, rot_length, HN.out] at this
                exact this
              have heq : Hid (∀ W, Qt wr W → Calls Try.prog 11 #[.slice za i zc, .slice ka i kc] W fun e w' => e = .returned (.bool (rot l j == rot l k)) ∧ ∃ m, w' = W.drewN m) := by
                intro W hW
                have := HEQ.out ⟨za, zc, rot l j⟩ ⟨ka, kc, rot l k⟩ W (hbj.ext (EQ.trans hW.ext)) (HBK.out.ext (EQ.trans hW.ext))
                simp only [Wd.v] at this
                rw [rot_length, rot_length, HN.out] at this
                exact this
              have hcs : Hid ((List.range (j + 1)).countP (dd l k) = (List.range j).countP (dd l k) + (if dd l k j then 1 else 0)) := countP_range_succ _ _
              have hdd : Hid (dd l k j = (ah (rot l j) (rot l k) || (rot l j == rot l k && decide (j < k)))) := rfl
              clear hcj hbj EQ
              generalize (rot l j == rot l k) = eb at *
              generalize ah (rot l j) (rot l k) = ab at *
              cases ab with
              | true =>
                have N1 : Hid (q + 1 = (List.range (j + 1)).countP (dd l k)) := by
                  show _ = _
                  rw [hcs.out, hdd.out, ← AQ.out]
                  simp
                clear hcs hdd AQ heq
                go_wp2
                go_quiet ((go_at_call 21; exact Calls.quiet_of (hah.out _ ⟨_, rfl⟩)))
                go_wp2
                go_roundg (i - (j + 1))
                case measure => omega
                case rel => exact ⟨j + 1, q + 1, by omega, by omega, by omega, by go_num, by go_num, BQ.out.trans ⟨_, rfl⟩, N1.out⟩
              | false =>
                cases eb with
                | false =>
                  have N1 : Hid (q = (List.range (j + 1)).countP (dd l k)) := by
                    show _ = _
                    rw [hcs.out, hdd.out, ← AQ.out]
                    simp
                  clear hcs hdd AQ
                  go_wp2
                  go_quiet ((first | (go_at_call 21; exact Calls.quiet_of (hah.out _ ⟨_, rfl⟩)) | (go_at_call 11; exact Calls.quiet_of (heq.out _ ⟨_, rfl⟩))))
                  go_wp2
                  go_roundg (i - (j + 1))
                  case measure => omega
                  case rel => exact ⟨j + 1, q, by omega, by omega, by omega, by go_num, rfl, BQ.out.trans ⟨_, rfl⟩, N1.out⟩
                | true =>
                  by_cases hjk : j < k
                  · have hjkz : (j : Int) < (k : Int) := by omega
                    have N1 : Hid (q + 1 = (List.range (j + 1)).countP (dd l k)) := by
                      show _ = _
                      rw [hcs.out, hdd.out, ← AQ.out]
                      simp [hjk]
                    clear hcs hdd AQ
                    go_wp2
                    go_quiet ((first | (go_at_call 21; exact Calls.quiet_of (hah.out _ ⟨_, rfl⟩)) | (go_at_call 11; exact Calls.quiet_of (heq.out _ ⟨_, rfl⟩))))
                    go_wp2
                    go_roundg (i - (j + 1))
                    case measure => omega
                    case rel => exact ⟨j + 1, q + 1, by omega, by omega, by omega, by go_num, by go_num, BQ.out.trans ⟨_, rfl⟩, N1.out⟩
                  · have hjkz : ¬ (j : Int) < (k : Int) := by omega
                    have N1 : Hid (q = (List.range (j + 1)).countP (dd l k)) := by
                      show _ = _
                      rw [hcs.out, hdd.out, ← AQ.out]
                      simp [hjk]
                    clear hcs hdd AQ
                    go_wp2
                    go_quiet ((first | (go_at_call 21; exact Calls.quiet_of (hah.out _ ⟨_, rfl⟩)) | (go_at_call 11; exact Calls.quiet_of (heq.out _ ⟨_, rfl⟩))))
                    go_wp2
                    go_roundg (i - (j + 1))
                    case measure => omega
                    case rel => exact ⟨j + 1, q, by omega, by omega, by omega, by go_num, rfl, BQ.out.trans ⟨_, rfl⟩, N1.out⟩
            · have hji : j = i := by omega
              subst hji
              have hq : q = rk l k := by
                rw [AQ.out, ← HN.out]
                rfl
              have hqj2 : q < j := by
                rw [hq, ← HN.out]
                exact rk_lt (by rw [HN.out]; exact hlt)
              have EQ : Ext w1 wr := BW.out.trans BQ.out.ext
              have e2 := EQ.cell HCK.out
              have hkb := HBK.out.ext EQ
              obtain ⟨t1, t2, t0, kb, ko, t3, t4⟩ := hkb
              simp only [rot_length, HN.out] at t1 t2 t3 t4
              obtain rfl := t3 (by omega)
              have e3 := t4 (j - 1) (by omega)
              have hlst : (rot l k).getD (j - 1) 0 = lst (rot l k) := by
                unfold lst
                rw [rot_length, HN.out]
              rw [hlst] at e3
              obtain ⟨O, hO1, hO2⟩ := HA.out
              have hO1 := hO1.ext BQ.out.ext
              have f1 := hO1.fr q
              obtain ⟨v1, c1⟩ : ∃ v, wr.cell? ⟨w1.heap.size, q, none⟩ = some v := ⟨_, hO1.cell q (by rw [List.length_map, hO2.len, HN.out]; exact hqj2)⟩
              have NX : Hid (∃ O, Row (wr.setCell ⟨w1.heap.size, q, none⟩ (.int .u8 (lst (rot l k)))) w1.heap.size 5 (bv O) ∧ Laid l O (k + 1)) := by
                refine ⟨O.set q (lst (rot l k)), ?_, ?_⟩
                · have := hO1.set q (.int .u8 (lst (rot l k)))
                  have e : bv (O.set q (lst (rot l k))) = (bv O).set q (.int .u8 (lst (rot l k))) := by simp [bv, List.map_set]
                  rw [e]
                  exact this
                · rw [hq]
                  exact hO2.next (by rw [HN.out]; exact hlt)
              have NE : Hid (Ext w1 (wr.setCell ⟨w1.heap.size, q, none⟩ (.int .u8 (lst (rot l k))))) := EQ.setCell (Nat.le_refl _) _
              have HQ : Hid (q = rk l k) := hq
              have hj1 : (0 : Int) < (j : Int) := by omega
              have hjm : (j : Int) - 1 = ((j - 1 : Nat) : Int) := by omega
              have hqz : (q : Int) < (j : Int) := by omega
              have hjm2 : ((j - 1 : Nat) : Int) < (j : Int) := by omega
              clear AQ hq t1 t3 t4 hO1 hO2 HA hlst EQ HAH HEQ t0 BQ
              generalize lst (rot l k) = y at *
              by_cases hk0 : k = 0
              · subst hk0
                have NV : Hid ((0 + 1 = 0 ∧ q = 0) ∨ (0 < 0 + 1 ∧ q = rk l 0)) := .inr ⟨by omega, HQ.out⟩
                clear HAV HQ
                go_wp2
                go_roundg (j - (0 + 1))
                case measure => omega
                case rel => exact ⟨0 + 1, q, by omega, by omega, by go_num, rfl, NE.out, NX.out, .inr ⟨by omega, by
                  rcases NV.out with h5 | h5
                  · omega
                  · exact h5.2⟩⟩
              · have hk0z : ((k : Int) == 0) = false := beq_eq_false_iff_ne.2 (by omega)
                have NV : Hid (av = rk l 0) := by
                  rcases HAV.out with h5 | h5
                  · exact absurd h5.1 hk0
                  · exact h5.2
                clear HAV HQ
                go_wp2
                go_roundg (j - (k + 1))
                case measure => omega
                case rel => exact ⟨k + 1, av, by omega, by omega, by go_num, rfl, NE.out, NX.out, .inr ⟨by omega, NV.out⟩⟩
        · have hki : k = i := by omega
          subst hki
          have F : Hid (∃ y : Wd, Value.slice (some ⟨w1.heap.size, 0, none⟩) k k = y.v ∧ y.l = tl l ∧ Bits wr y ∧ Ext w wr) := by
            obtain ⟨O, hO1, hO2⟩ := A.out
            have hO : O = tl l := laid_tl hO2.len (fun q hq => hO2.at_ q (by rw [HN.out] at hq; exact hq))
            rw [hO] at hO1
            have hl : (tl l).length = k := by rw [tl_length, HN.out]
            refine ⟨⟨some ⟨w1.heap.size, 0, none⟩, k, tl l⟩, ?_, rfl, ?_, HE1.out.trans BW.out⟩
            · simp only [Wd.v]; rw [hl]
            · have := hO1.bits (by rw [hl]; unfold maxLen; omega)
              rw [hl] at this
              exact this
          have NV : Hid (av = rk l 0) := by
            rcases AV.out with ⟨h5, h6⟩ | h5
            · have : l = [] := List.eq_nil_of_length_eq_zero (by rw [HN.out]; exact h5)
              rw [h6, this]
              rfl
            · exact h5.2
          clear A AV HAH HEQ
          go_wp2
          go_ret2
          obtain ⟨y, e1, e2, e3, e4⟩ := F.out
          refine ⟨y, ?_, e2, e3, e4⟩
          rw [← NV.out]
          exact congrArg (fun v => Ending.returned (.tuple #[v, .int .i64 (av : Int)])) e1

end Go.Proofs.Ytkccdhidmihekaa
