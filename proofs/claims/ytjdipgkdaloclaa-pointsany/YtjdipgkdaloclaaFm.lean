/-
  points.Fill where the counts are right.
-/
import Derived.Test.YtjdipgkdaloclaaFl
namespace Go.Proofs.Ytjdipgkdaloclaa
open Go.RowKit

/-- A number by itself, asked whether it is one. -/
theorem check_one_row (q : Int) (w : World) : Calls Try.prog 18 #[.slice (some ⟨w.heap.size, 0, none⟩) 1 1] (w.alloc (.cells #[.int .i64 q] 3)) fun e w' => e = .returned (.int .i64 (fe [q])) ∧ w' = w.alloc (.cells #[.int .i64 q] 3) :=
  check_any ⟨some ⟨w.heap.size, 0, none⟩, 1, [q]⟩ _ (Row.nums (z := [q]) (heap_alloc_new _ _) (by simp [maxLen]))

set_option maxRecDepth 100000 in
set_option maxHeartbeats 2000000 in
theorem Fill_any (k : Nat) (y : Nm) (x : Bd) (hk1 : 1 ≤ k) (hk2 : k ≤ y.z.length) (hn : y.z.length ≤ 9) (hl : x.l.length = y.z.length) (X : Int) (FN : List Int) (hbad : ¬ okl y.z x.l → X = 4 ∧ FN = [])
    (hgood : okl y.z x.l → X = fil y.z x.l k (nd (lf y.z) (pf x.l y.z.length) k) ∧ FN = fin y.z x.l k (nd (lf y.z) (pf x.l y.z.length) k)) (w : World) (hy : Nums w y) (hx : Bls w x) :
    Calls Try.prog 11 #[.int .i64 k, y.v, x.v] w fun e w' => Ext w w' ∧ ∃ m : Nm, e = .returned (.tuple #[m.v, .int .i64 X]) ∧ m.z = FN ∧ Nums w' m := by
  have hmem : ∀ p ∈ lft x.l y.z.length, p < y.z.length ∧ x.l.getD p false = false := fun p hp => lft_mem.1 hp
  have hpw := lft_pw x.l y.z.length
  have E1 : Ext w (w.alloc (.cells #[y.v] 22)) := (Ext.refl w).alloc _
  have c1 := counts_any k y.z.length (w.alloc (.cells #[y.v] 22))
  rw [pc_good (by omega) (by omega) (by omega)] at c1
  have c2 := left_any x (by omega) _ (hx.ext E1)
  have hxe : x.v = .slice x.a y.z.length x.c := by rw [Bd.v, hl]
  rw [hxe, hl] at c2
  rw [hxe]
  have HB : Hid (∀ W, Ext (w.alloc (.cells #[y.v] 22)) W → W.cell? ⟨w.heap.size, 0, none⟩ = some y.v) := fun W E => E.cell (Boxed.new w 22 y.v).cell
  have HE : Hid (Ext w (w.alloc (.cells #[y.v] 22))) := E1
  have HY : Hid (Nums w y) := hy
  have hy2 := hy
  obtain ⟨h1, h2, _, b, o, h3, h4⟩ := hy2
  have LC0 : Hid (∀ i, i < y.z.length → w.cell? ⟨b, o + i, none⟩ = some (.int .i64 (y.z.getD i 0))) := h4
  have LA : y.a = some ⟨b, o, none⟩ := h3 (by omega)
  have HQ : Hid (∀ W v, OwnN (w.alloc (.cells #[y.v] 22)) W v (zl (lft x.l y.z.length)) → ∃ q : Nm, v = .slice q.a (lft x.l y.z.length).length q.c ∧ q.z = zl (lft x.l y.z.length) ∧ Nums W q) := fun W v O => by
    obtain ⟨q, rfl, hq, q1⟩ := O.nums
    exact ⟨q, by rw [Nm.v, hq, zl_len], hq, q1⟩
  -- a place that is not lost
  have PM0 : Hid (∀ i, i < (lft x.l y.z.length).length → pf x.l y.z.length i < y.z.length ∧ x.l.getD (pf x.l y.z.length i) false = false) := fun i hi => hmem _ (getD_mem hi)
  have BAD0 : Hid (∀ i, i < (lft x.l y.z.length).length → ¬ (0 ≤ y.z.getD (pf x.l y.z.length i) 0 ∧ y.z.getD (pf x.l y.z.length i) 0 ≤ 15) → X = 4 ∧ FN = []) := fun i hi h => hbad (fun ho => h (by
    have := hmem _ (getD_mem hi)
    exact ho _ this.1 this.2))
  have OK0 : Hid ((∀ i, i < (lft x.l y.z.length).length → 0 ≤ y.z.getD (pf x.l y.z.length i) 0 ∧ y.z.getD (pf x.l y.z.length i) 0 ≤ 15) → okl y.z x.l) := fun h i hi hb => by
    obtain ⟨j, hj, e⟩ := List.mem_iff_getElem.1 (lft_mem.2 ⟨hi, hb⟩)
    have := h j hj
    have e2 : pf x.l y.z.length j = i := by
      show (lft x.l y.z.length).getD j 0 = i
      rw [List.getD_eq_getElem?_getD, List.getElem?_eq_getElem hj]
      exact e
    rw [e2] at this
    exact this
  have GO : Hid (okl y.z x.l → X = fil y.z x.l k (nd (lf y.z) (pf x.l y.z.length) k) ∧ FN = fin y.z x.l k (nd (lf y.z) (pf x.l y.z.length) k)) := hgood
  have TH : Hid (okl y.z x.l → k ≤ (lft x.l y.z.length).length → ∀ (W : World) (q : Nm), Ext w W → q.z = zl (lft x.l y.z.length) → Nums W q → Calls Try.prog 22 #[y.v, .slice q.a k q.c] W fun e w' => e = .returned (.slice (some ⟨W.heap.size, 0, none⟩) k k) ∧ Ext W w' ∧ Row w' W.heap.size 3 (nf (nd (lf y.z) (pf x.l y.z.length) k) k)) := fun ho hc W q E hq q1 => by
    have hql : q.z.length = (lft x.l y.z.length).length := by rw [hq, zl_len]
    have e1 : q.z.take k = zl (nl (pf x.l y.z.length) k) := by rw [hq, zl, ← List.map_take, take_nl _ _ hc]
    have n1 := q1.first (k := k) (by omega)
    have := through_any (lf y.z) (pf x.l y.z.length) k y ⟨q.a, q.c, q.z.take k⟩ ⟨plc_of hn ho hmem hpw hc, hk1, by omega, fun i hi => (hmem _ (getD_mem (by omega))).1, fun i hi => val_of ho hmem hc i hi, e1⟩ W (HY.out.ext E) n1
    have e2 : (q.z.take k).length = k := by rw [List.length_take]; omega
    simp only [Nm.v, e2] at this ⊢
    exact this
  have DL : okl y.z x.l → k ≤ (lft x.l y.z.length).length → ∀ c ∈ nl (nd (lf y.z) (pf x.l y.z.length) k) k, c < 16 := fun ho hc => nl_lt (fun i _ => nd_lt (plc_of hn ho hmem hpw hc) i)
  obtain ⟨D, hD⟩ : ∃ D, D = nd (lf y.z) (pf x.l y.z.length) k := ⟨_, rfl⟩
  rw [← hD] at GO TH DL
  have MD : Hid (okl y.z x.l → k ≤ (lft x.l y.z.length).length → ∀ (W : World) (B : Nat), Row W B 3 (nf D k) → Calls Try.prog 19 #[.slice (some ⟨B, 0, none⟩) k k, .int .i64 y.z.length] W fun e w' => e = .returned (.slice (some ⟨W.heap.size, 0, none⟩) y.z.length y.z.length) ∧ Ext W w' ∧ Row w' W.heap.size 3 (nf (ep (nl D k)) y.z.length)) := fun ho hc W B R => by
    have n1 := R.numsF (by unfold maxLen; omega)
    have := made_any (nl D k) (DL ho hc) (by rw [nl_len]; omega) y.z.length hn _ rfl W n1
    simp only [Nm.v, zl_len, nl_len] at this
    exact this
  have CF : Hid (∀ (W W0 : World) (q : Nm) (Bm Bp : Nat), Ext W0 W → q.z = zl (lft x.l y.z.length) → Nums W q → Ext (w.alloc (.cells #[y.v] 22)) W0 → Row W Bm 3 (nf (ep (nl D k)) y.z.length) → W.cell? ⟨Bp, 0, none⟩ = some (.slice (some ⟨Bm, 0, none⟩) y.z.length y.z.length) →
      Calls Try.prog 23 #[.slice q.a (lft x.l y.z.length).length q.c, .func (.func 24) #[] #[.pointer (some ⟨Bp, 0, none⟩), .pointer (some ⟨w.heap.size, 0, none⟩)]] W fun e w' => e = .returned (.bool (decide (0 < ofc y.z x.l (nl D k) y.z.length))) ∧ Ext W w') := fun W W0 q Bm Bp E hq q1 E0 R hcell => by
    have := containsN_any q.a q.c q.z 24 #[.pointer (some ⟨Bp, 0, none⟩), .pointer (some ⟨w.heap.size, 0, none⟩)] (fun r => ((ep (nl D k) r.toNat : Nat) : Int) != y.z.getD r.toNat 0) W (fun _ _ => rfl) q1 (fun W2 r hr E2 => by
      rw [hq] at hr
      obtain ⟨p, hp, rfl⟩ := List.mem_map.1 hr
      have hpl := (hmem p hp).1
      have hcl := ((HE.out.trans E0).trans E).trans E2 |>.cell (LC0.out p hpl)
      have hcm := E2.cell (R.cellN p hpl)
      have := pred_any Bp w.heap.size (some ⟨Bm, 0, none⟩) y.a y.z.length y.z.length y.c Bm 0 b o p ((ep (nl D k) p : Nat) : Int) (y.z.getD p 0) W2 (E2.cell hcell) (HB.out W2 ((E0.trans E).trans E2)) hpl rfl LA (by simpa using hcm) hcl
      simpa using this)
    rw [hq, any_ofc, zl_len] at this
    exact this
  have F5 : Hid (okl y.z x.l → (lft x.l y.z.length).length < k → X = 5 ∧ FN = []) := fun ho h => by
    have : fil y.z x.l k D = 5 := if_pos h
    exact ⟨(GO.out ho).1.trans this, (GO.out ho).2.trans (by unfold fin; rw [this]; rfl)⟩
  have F8 : Hid (okl y.z x.l → k ≤ (lft x.l y.z.length).length → 0 < ofc y.z x.l (nl D k) y.z.length → X = 8 ∧ FN = []) := fun ho h h2 => by
    have : fil y.z x.l k D = 8 := by unfold fil; rw [if_neg (by omega), if_pos h2]
    exact ⟨(GO.out ho).1.trans this, (GO.out ho).2.trans (by unfold fin; rw [this]; rfl)⟩
  have F0 : Hid (okl y.z x.l → k ≤ (lft x.l y.z.length).length → ¬ 0 < ofc y.z x.l (nl D k) y.z.length → X = 0 ∧ FN = zl (nl D k)) := fun ho h h2 => by
    have : fil y.z x.l k D = 0 := by unfold fil; rw [if_neg (by omega), if_neg h2]
    exact ⟨(GO.out ho).1.trans this, (GO.out ho).2.trans (by unfold fin; rw [if_pos this])⟩
  have HLen : Hid ((zl (lft x.l y.z.length)).length = (lft x.l y.z.length).length) := zl_len _
  have hMn : (lft x.l y.z.length).length ≤ y.z.length := lft_len _ _
  clear hmem hpw hD DL GO hbad hgood h3 h4 h1 hx E1 hxe hl
  have hyv : y.v = .slice (some ⟨b, o, none⟩) y.z.length y.c := by rw [Nm.v, LA]
  rw [hyv] at c1 c2 HB HE HQ TH CF ⊢
  clear hyv LA HY
  generalize (lft x.l y.z.length).length = M at *
  obtain ⟨P, hP⟩ : ∃ P : Nat → Nat, P = pf x.l y.z.length := ⟨_, rfl⟩
  obtain ⟨Z, hZ⟩ : ∃ Z : Nat → Int, Z = fun p => y.z.getD p 0 := ⟨_, rfl⟩
  have PM : Hid (∀ i, i < M → P i < y.z.length) := by rw [hP]; exact fun i hi => (PM0.out i hi).1
  have LC : Hid (∀ i, i < y.z.length → w.cell? ⟨b, o + i, none⟩ = some (.int .i64 (Z i))) := by rw [hZ]; exact LC0.out
  have BAD : Hid (∀ i, i < M → ¬ (0 ≤ Z (P i) ∧ Z (P i) ≤ 15) → X = 4 ∧ FN = []) := by rw [hP, hZ]; exact BAD0.out
  have OK : Hid ((∀ i, i < M → 0 ≤ Z (P i) ∧ Z (P i) ≤ 15) → okl y.z x.l) := by rw [hP, hZ]; exact OK0.out
  have QC : Hid (∀ (W : World) (q : Nm), q.z = zl (lft x.l y.z.length) → q.z.length = M → Nums W q → ∃ qb qo, (0 < M → q.a = some ⟨qb, qo, none⟩) ∧ M ≤ q.c ∧ q.c ≤ maxLen ∧ ∀ i, i < M → W.cell? ⟨qb, qo + i, none⟩ = some (.int .i64 (P i : Nat))) := fun W q hq hM q1 => by
    obtain ⟨r1, r2, _, qb, qo, r3, r4⟩ := q1
    rw [hM] at r1 r3 r4
    refine ⟨qb, qo, r3, r1, r2, fun i hi => ?_⟩
    rw [r4 i hi, hq, zl_at, hP]
  clear hP hZ PM0 BAD0 OK0 LC0
  generalize okl y.z x.l = OKP at *
  generalize ofc y.z x.l (nl D k) y.z.length = C at *
  generalize ep (nl D k) = V at *
  obtain ⟨FF, hFF⟩ : ∃ FF, FF = zl (lft x.l y.z.length) := ⟨_, rfl⟩
  rw [← hFF] at c2 HQ TH CF QC HLen
  obtain ⟨DD, hDD⟩ : ∃ DD, DD = zl (nl D k) := ⟨_, rfl⟩
  rw [← hDD] at F0
  have DN : Hid (∀ W B, Row W B 3 (nf D k) → Nums W ⟨some ⟨B, 0, none⟩, k, DD⟩) := fun W B R => by rw [hDD]; exact R.numsF (by unfold maxLen; omega)
  have DLn : Hid (DD.length = k) := by rw [hDD, Hid, zl_len, nl_len]
  clear hFF hDD
  generalize y.c = yc at *
  generalize x.a = xa at *
  generalize x.c = xc at *
  generalize y.z.length = n at *
  have hb1 := HB.out _ (Ext.refl _)
  go_enter Try.func11, Try.ntmps11
  go_wp2_with fail
  refine c1.mono ?_
  rintro e w' ⟨rfl, hh⟩
  have hh := hh.symm
  subst hh
  clear c1
  go_wp2_with fail
  refine c2.mono ?_
  rintro e w2 ⟨v, rfl, O⟩
  clear c2
  obtain ⟨q, rfl, hq, q1⟩ := HQ.out w2 v O
  have E2 : Hid (Ext (w.alloc (.cells #[.slice (some ⟨b, o, none⟩) n yc] 22)) w2) := O.1
  have Q1 : Hid (Nums w2 q) := q1
  have Q0 : Hid (q.z = FF) := hq
  have hqM : q.z.length = M := by rw [hq]; exact HLen.out
  obtain ⟨qb, qo, q3, q4, q5, q6⟩ := QC.out w2 q hq hqM q1
  have QP : Hid (∀ i, i < M → w2.cell? ⟨qb, qo + i, none⟩ = some (.int .i64 (P i : Nat))) := q6
  have QA : Hid (0 < M → q.a = some ⟨qb, qo, none⟩) := q3
  have QM : Hid (M ≤ q.c ∧ q.c ≤ maxLen) := ⟨q4, q5⟩
  clear O q1 hq q3 q4 q5 q6 hqM HQ QC HLen hb1
  obtain ⟨qa, qc, qz⟩ := q
  simp only at *
  generalize w.alloc (.cells #[.slice (some ⟨b, o, none⟩) n yc] 22) = W1 at *
  go_wp2
  go_loopg [11, 12, 31] M (fun gg _ _ s31 wr => ∃ i : Nat, i ≤ M ∧ M - i ≤ gg ∧ s31 = .int .i64 i ∧ Aside (Ext w2 wr) ∧ Aside (∀ j, j < i → 0 ≤ Z (P j) ∧ Z (P j) ≤ 15))
  case atStart => exact ⟨0, by omega, by omega, rfl, Ext.refl _, fun j hj => absurd hj (Nat.not_lt_zero _)⟩
  case round =>
    obtain ⟨i, hi, hgg, rfl, E, A⟩ := hrel
    by_cases hlt : i < M
    · have hltz : (i : Int) < (M : Int) := by omega
      obtain rfl := QA.out (by omega)
      have hcp := E.out.cell (QP.out i hlt)
      have hPn := PM.out i hlt
      have hPz : (P i : Int) < (n : Int) := by omega
      have hcb := HB.out wr (E2.out.trans E.out)
      have hcl := (HE.out.trans (E2.out.trans E.out)).cell (LC.out (P i) hPn)
      have bad := BAD.out i hlt
      have go : Aside (0 ≤ Z (P i) ∧ Z (P i) ≤ 15 → ∀ j, j < i + 1 → 0 ≤ Z (P j) ∧ Z (P j) ≤ 15) := fun h j hj => by
        rcases Nat.lt_succ_iff_lt_or_eq.1 hj with h' | rfl
        · exact A.out j h'
        · exact h
      have ck : Calls Try.prog 18 #[.slice (some ⟨wr.heap.size, 0, none⟩) 1 1] (wr.alloc (.cells #[.int .i64 (Z (P i))] 3)) fun e w' => e = .returned (.int .i64 (fe [Z (P i)])) ∧ w' = wr.alloc (.cells #[.int .i64 (Z (P i))] 3) := check_one_row (Z (P i)) wr
      have E3 : Hid (Ext w2 (wr.alloc (.cells #[.int .i64 (Z (P i))] 3))) := E.out.alloc _
      have E4 : Hid (Ext w (wr.alloc (.cells #[.int .i64 (Z (P i))] 3))) := (HE.out.trans E2.out).trans E3.out
      by_cases hz : 0 ≤ Z (P i) ∧ Z (P i) ≤ 15
      · have gn := go.out hz
        have hf : fe [Z (P i)] = 0 := fe_good (by intro r hr; simp at hr; rw [hr]; exact hz)
        rw [hf] at ck
        have GN : Aside (∀ j, j < i + 1 → 0 ≤ Z (P j) ∧ Z (P j) ≤ 15) := gn
        clear gn go hf hz bad E A
        generalize Z (P i) = zi at *
        generalize hPi : P i = pi at *
        clear hPi
        go_wp2_with fail
        refine ck.mono ?_
        rintro e w' ⟨rfl, hh⟩
        have hh := hh.symm
        subst hh
        clear ck
        generalize wr.alloc (.cells #[.int .i64 zi] 3) = w3 at *
        go_wp2
        go_roundg (M - (i + 1))
        case measure => omega
        case rel => exact ⟨i + 1, by omega, by omega, by go_num, E3.out, GN.out⟩
      · obtain ⟨b1, b2⟩ := bad hz
        subst b1 b2
        have hf : fe [Z (P i)] = 4 := fe_bad (fun h => hz (h _ (by simp)))
        rw [hf] at ck
        clear go hf hz bad E A
        generalize Z (P i) = zi at *
        generalize hPi : P i = pi at *
        clear hPi
        go_wp2_with fail
        refine ck.mono ?_
        rintro e w' ⟨rfl, hh⟩
        have hh := hh.symm
        subst hh
        clear ck
        generalize wr.alloc (.cells #[.int .i64 zi] 3) = w3 at *
        go_wp2
        go_ret2
        exact ⟨E4.out, ⟨none, 0, []⟩, rfl, rfl, nil_nums _⟩
    · obtain rfl : i = M := by omega
      have ho := OK.out A.out
      have E4 : Hid (Ext w wr) := (HE.out.trans E2.out).trans E.out
      clear BAD OK A PM LC QP
      by_cases hM : i < k
      · obtain ⟨f1, f2⟩ := F5.out ho hM
        subst f1 f2
        have hMz : (i : Int) < (k : Int) := by omega
        go_wp2
        go_ret2
        exact ⟨E4.out, ⟨none, 0, []⟩, rfl, rfl, nil_nums _⟩
      · have hM2 : k ≤ i := by omega
        have hMz : ¬ (i : Int) < (k : Int) := by omega
        obtain rfl := QA.out (by omega)
        have hqm := QM.out
        unfold maxLen at hqm
        have hkc : (k : Int) ≤ (qc : Int) := by omega
        have f8 := F8.out ho hM2
        have f0 := F0.out ho hM2
        have E5 : Hid (Ext W1 wr) := E2.out.trans E.out
        have th := TH.out ho hM2 wr.drew ⟨some ⟨qb, qo, none⟩, qc, qz⟩ (E4.out.trans (ext_drew _)) Q0.out ((Q1.out.ext E.out).ext (ext_drew _))
        have md := MD.out ho hM2
        have MDx : Hid (∀ (W : World) (B : Nat), Row W B 3 (nf D k) → Calls Try.prog 19 #[.slice (some ⟨B, 0, none⟩) k k, .int .i64 n] W fun e w' => e = .returned (.slice (some ⟨W.heap.size, 0, none⟩) n n) ∧ Ext W w' ∧ Row w' W.heap.size 3 (nf V n)) := md
        have HBx : Hid (∀ W, Ext wr.drew W → W.cell? ⟨w.heap.size, 0, none⟩ = some (.slice (some ⟨b, o, none⟩) n yc)) := fun W E => HB.out W ((E5.out.trans (ext_drew _)).trans E)
        have E6 : Hid (Ext w wr.drew) := E4.out.trans (ext_drew _)
        have E7 : Hid (Ext W1 wr.drew) := E5.out.trans (ext_drew _)
        have N7 : Hid (Nums wr.drew ⟨some ⟨qb, qo, none⟩, qc, qz⟩) := (Q1.out.ext E.out).ext (ext_drew _)
        clear md TH MD F8 F0 F5 E4 E5 HB QA E E2 Q1
        go_wp2_with fail
        refine wp_region_mix 5 (fun W => Ext wr.drew W) 6 (by rfl) (by kernel_rfl) ?_
        generalize wr.drew = W2 at *
        refine wpMix_take (v := .slice (some ⟨b, o, none⟩) n yc) 0 (by rfl) (by kernel_rfl) ⟨by rfl, ?_⟩ ?_
        · rintro W hW
          have hc := HBx.out W hW; go_simp
        refine wpMix_take (v := .slice (some ⟨qb, qo, none⟩) i qc) 1 (by rfl) (by kernel_rfl) ⟨by rfl, ?_⟩ ?_
        · rintro W hW
          go_simp
        refine wpMix_take (v := .int .i64 k) 2 (by rfl) (by kernel_rfl) ⟨by rfl, ?_⟩ ?_
        · rintro W hW
          go_simp
        refine wpMix_take (v := .slice (some ⟨qb, qo, none⟩) k qc) 3 (by rfl) (by kernel_rfl) ⟨by rfl, ?_⟩ ?_
        · rintro W hW
          go_simp
        refine wpMix_only 4 (by kernel_rfl) (fun _ => Ext.refl _) ?_
        refine mOp_call (f := 22) (args := #[.slice (some ⟨b, o, none⟩) n yc, .slice (some ⟨qb, qo, none⟩) k qc]) (w' := W2) (by rfl) (by rfl) ?_ ?_
        · go_simp
        refine th.mono ?_
        rintro e W3 ⟨rfl, X3, R3⟩
        refine ⟨_, rfl, ?_⟩
        refine wpMix_lastv (v := .slice (some ⟨W2.heap.size, 0, none⟩) k k) 5 (by kernel_rfl) (by kernel_rfl) (by rfl) (by rfl) (fun _ => X3) (w' := W3) ?_ (fun _ => X3) ?_
        · go_simp
        simp only [Act.put, List.setIfInBounds_toArray, List.set_cons_zero, List.set_cons_succ]
        have hc3 := HBx.out W3 X3
        have m3 := MDx.out W3 _ R3
        have R3x : Hid (Row W3 W2.heap.size 3 (nf D k)) := R3
        have X3x : Hid (Ext W2 W3) := X3
        clear th MDx X3 R3
        go_wp2_with fail
        refine m3.mono ?_
        rintro e W4 ⟨rfl, X4, R4⟩
        clear m3
        have hw4 : (W4.alloc (.cells #[.slice (some ⟨W3.heap.size, 0, none⟩) n n] 22)).cell? ⟨W4.heap.size, 0, none⟩ = some (.slice (some ⟨W3.heap.size, 0, none⟩) n n) := (Boxed.new W4 22 _).cell
        have E24 : Ext W2 W4 := X3x.out.trans X4
        have cf := CF.out (W4.alloc (.cells #[.slice (some ⟨W3.heap.size, 0, none⟩) n n] 22)) W2 ⟨some ⟨qb, qo, none⟩, qc, qz⟩ W3.heap.size W4.heap.size (E24.alloc _) Q0.out (N7.out.ext (E24.alloc _)) E7.out (R4.ext ((Ext.refl _).alloc _)) hw4
        have R5 : Hid (Row (W4.alloc (.cells #[.slice (some ⟨W3.heap.size, 0, none⟩) n n] 22)) W2.heap.size 3 (nf D k)) := (R3x.out.ext X4).ext ((Ext.refl _).alloc _)
        have E8 : Hid (Ext w (W4.alloc (.cells #[.slice (some ⟨W3.heap.size, 0, none⟩) n n] 22))) := (E6.out.trans E24).alloc _
        clear X4 R4 hw4 E24 CF R3x X3x hc3 HBx
        simp only at cf
        by_cases hC : 0 < C
        · obtain ⟨g1, g2⟩ := f8 hC
          subst g1 g2
          rw [decide_eq_true hC] at cf
          clear f8 f0 hC
          go_wp2_with fail
          refine cf.mono ?_
          rintro e W5 ⟨rfl, X5⟩
          have E9 : Hid (Ext w W5) := E8.out.trans X5
          clear cf X5
          go_wp2
          go_ret2
          exact ⟨E9.out, ⟨none, 0, []⟩, rfl, rfl, nil_nums _⟩
        · obtain ⟨g1, g2⟩ := f0 hC
          subst g1 g2
          rw [decide_eq_false hC] at cf
          clear f8 f0 hC
          go_wp2_with fail
          refine cf.mono ?_
          rintro e W5 ⟨rfl, X5⟩
          have E9 : Hid (Ext w W5) := E8.out.trans X5
          have N9 : Hid (Nums W5 ⟨some ⟨W2.heap.size, 0, none⟩, k, FN⟩) := (DN.out _ _ R5.out).ext X5
          clear cf X5 DN
          go_wp2
          go_ret2
          exact ⟨E9.out, ⟨some ⟨W2.heap.size, 0, none⟩, k, FN⟩, by simp only [Nm.v, DLn.out]; rfl, rfl, N9.out⟩

end Go.Proofs.Ytjdipgkdaloclaa
