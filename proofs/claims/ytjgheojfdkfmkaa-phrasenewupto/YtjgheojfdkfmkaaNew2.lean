/-
  quipukeep.PhraseNew: the walk, where both texts together are short.
-/
import Derived.Test.YtjgheojfdkfmkaaNew
import Derived.Deep.DeepCutAuto
namespace Go.Proofs.Ytjgheojfdkfmkaa
open Go.RowKit
set_option linter.unusedVariables false

set_option maxHeartbeats 8000000 in
theorem new_small (x y : Wd) (w : World) (hx : Bits w x) (hy : Bits w y) (bx : Byt x.l) (by' : Byt y.l) (hl : x.l.length + y.l.length ≤ 64) : Calls Try.prog 6 #[x.v, y.v] w fun e w' => e = .returned (.bool true) ∧ Ext w w' := by
  have hp := parse_good x w hx bx (by omega)
  have PG : Hid (∀ (z : Wd) W, Bits W z → z.l = x.l ++ y.l → Calls Try.prog 7 #[z.v] W fun e w' => ∃ v, e = .returned (.tuple #[v, .int .i64 0]) ∧ OwnP W w' v (phr (x.l ++ y.l))) := fun z W hz he => by
    have := parse_good z W hz (by rw [he]; exact bx.append by') (by rw [he, List.length_append]; exact hl)
    rw [he] at this
    exact this
  have HX : Hid (Bits w x ∧ Bits w y) := ⟨hx, hy⟩
  have HMORE : (phr x.l).length ≤ (phr (x.l ++ y.l)).length := phr_more x.l y.l
  have HM64 : (phr (x.l ++ y.l)).length ≤ 64 := by have := phr_length (x.l ++ y.l); rw [List.length_append] at this; omega
  have HPOS : 0 < x.l.length → 0 < (phr x.l).length := fun h => phr_some (by intro e; rw [e] at h; simp at h)
  have HPL : (phr x.l).length ≤ x.l.length := phr_length x.l
  have HNEW : Hid (∀ i j, i + 1 < (phr x.l).length → j < i → (phr x.l).getD i (0, 0) ≠ (phr x.l).getD j (0, 0)) := fun i j h1 h2 => by
    have := phr_new x.l i j h1 h2
    simpa [List.getD_eq_getElem?_getD, show i < (phr x.l).length by omega, show j < (phr x.l).length by omega] using this
  have HVD : Hid (∀ i, i < (phr x.l).length → 0 ≤ ((phr x.l).getD i (0, 0)).1 ∧ ((phr x.l).getD i (0, 0)).1 ≤ i) := fun i h1 => by
    have := phr_vd x.l i h1
    simpa [List.getD_eq_getElem?_getD, h1] using this
  obtain ⟨xn, hxn⟩ : ∃ xn, x.l.length = xn := ⟨_, rfl⟩
  obtain ⟨yn, hyn⟩ : ∃ yn, y.l.length = yn := ⟨_, rfl⟩
  have L1 : Hid (([] : List Int).length + x.l.length ≤ 140737488355328) := by show _ ≤ _; simp; omega
  have L2 : Hid (([] ++ x.l).length + y.l.length ≤ 140737488355328) := by show _ ≤ _; simp; omega
  have HXN : Hid (Value.slice x.a xn x.c = x.v) := by show _ = x.v; rw [← hxn]
  have HYN : Hid (Value.slice y.a yn y.c = y.v) := by show _ = y.v; rw [← hyn]
  rw [← HXN.out] at hp
  rw [← HXN.out, ← HYN.out]
  rw [hxn, hyn] at hl
  rw [hxn] at HPOS HPL
  have hlz : ¬ (((xn : Int) + (yn : Int)) > 64) := by omega
  clear hx hy bx by' hxn hyn
  generalize phr (x.l ++ y.l) = M at *
  generalize phr x.l = P at *
  go_enter Try.func6, Try.ntmps6
  go_wp2_with fail
  refine hp.mono ?_
  rintro e w1 ⟨v, rfl, hv⟩
  obtain ⟨u, rfl, hug, hu⟩ := hv.phs
  have E1 : Hid (Ext w w1) := hv.1
  have HU : Hid (Phs w1 u) := hu
  have O1 : Hid (OwnB w1 (w1.alloc (.cells #[] 5)) (.slice (some ⟨w1.heap.size, 0, none⟩) 0 0) []) := OwnB.empty w1
  have B1 : Hid (Bits (w1.alloc (.cells #[] 5)) x) := HX.out.1.ext (hv.1.alloc _)
  have YE : Hid (∀ W, Ext w1 W → Bits W y) := fun W e => HX.out.2.ext (E1.out.trans e)
  subst hug
  clear hp hv HX hu
  obtain ⟨ua, uc, g⟩ := u
  simp only [Pm.v] at *
  go_wp2_with (first
    | (at_builtin; refine wpList_appendBits rfl _ _ rfl w1 _ q3.v (by rfl) ([] ++ x.l) A3.out y (by show Value.slice _ _ _ = _; exact HYN.out) (YE.out _ A3.out.1) L2.out ?_; intro v4 w4 A4')
    | (at_builtin; refine wpList_appendBits rfl _ _ rfl w1 _ (.slice (some ⟨w1.heap.size, 0, none⟩) 0 0) (by rfl) [] O1.out x (by show Value.slice _ _ _ = _; exact HXN.out) B1.out L1.out ?_; intro v3 w3 A3'; obtain ⟨q3, rfl, -, -⟩ := A3'.bits; have A3 : Hid (OwnB w1 w3 q3.v ([] ++ x.l)) := A3'; clear A3'))
  obtain ⟨q4, rfl, hq4, hb4⟩ := A4'.bits
  have hr := PG.out q4 w4 hb4 (by rw [hq4, List.nil_append])
  have E4 : Hid (Ext w1 w4) := A4'.1
  clear A4' A3 hq4 hb4 O1 B1 L1 L2 PG YE
  go_wp2_with fail
  refine hr.mono ?_
  rintro e w5 ⟨v5, rfl, hv5⟩
  obtain ⟨ma, mc, rfl⟩ := hv5.form
  have E5 : Hid (Ext w1 w5) := E4.out.trans hv5.1
  have HU5 := HU.out.ext E5.out
  obtain ⟨-, u2, -, b, o, u3, u4'⟩ := HU5
  have u4 := Phs.cells u4'
  simp only at u2 u3 u4
  clear hr hv5 E4 HU u4'
  obtain ⟨L, hL⟩ : ∃ L, g.length = L := ⟨_, rfl⟩
  have U4 : Hid (∀ i, i < L → w5.cell? ⟨b, o + i * 2, none⟩ = some (.int .i64 (g.getD i (0, 0)).1) ∧ w5.cell? ⟨b, o + i * 2 + 1, none⟩ = some (.int .u8 (g.getD i (0, 0)).2)) := fun i hi => u4 i (by rw [hL]; exact hi)
  rw [hL] at u3 HMORE HPOS HPL HNEW HVD ⊢
  generalize M.length = mm at *
  have EW : Hid (Ext w w5) := E1.out.trans E5.out
  clear u4 hL E1 E5 HXN HYN
  unfold maxLen at u2
  have hml : ¬ (mm < L) := by omega
  have hlz2 : ¬ (64 < (xn : Int) + (yn : Int)) := by omega
  by_cases hx0 : xn = 0
  · obtain rfl : L = 0 := by omega
    subst hx0
    clear HPOS HPL HNEW HVD U4 u3
    go_wp2_with fail
    go_loopg [9, 10] 1 (fun gg s9 _ wr => wr = w5 ∧ s9 = .int .i64 0)
    case atStart => exact ⟨rfl, rfl⟩
    case round =>
      obtain ⟨rfl, rfl⟩ := hrel
      go_wp2
      go_ret
      exact ⟨rfl, EW.out⟩
  · have hx1 : 0 < xn := by omega
    have hL1 : 0 < L := HPOS hx1
    have hLb : ((L : Int) == 0) = false := beq_eq_false_iff_ne.2 (by omega)
    obtain rfl := u3 hL1
    clear HPOS hx0 u3
    go_wp2_with fail
    go_loopg [9, 10] L (fun gg s9 _ wr => ∃ i : Nat, i + 1 ≤ L ∧ L - i ≤ gg ∧ s9 = .int .i64 i ∧ Aside (Qt w5 wr))
    case atStart => exact ⟨0, by omega, by omega, rfl, Qt.refl _⟩
    case round =>
      obtain ⟨i, hi, hgg, rfl, QW⟩ := hrel
      by_cases hlt : i + 1 < L
      · have hltz : (i : Int) + 1 < (L : Int) := by omega
        have hd := HVD.out i (by omega)
        obtain ⟨c0, c1⟩ := U4.out i (by omega)
        have NE : Hid (∀ j, j < i → g.getD i (0, 0) ≠ g.getD j (0, 0)) := fun j hj => HNEW.out i j hlt hj
        have C0 : Hid (w5.cell? ⟨b, o + i * 2, none⟩ = some (.int .i64 (g.getD i (0, 0)).1) ∧ w5.cell? ⟨b, o + i * 2 + 1, none⟩ = some (.int .u8 (g.getD i (0, 0)).2)) := ⟨c0, c1⟩
        clear c0 c1
        generalize g.getD i (0, 0) = ph at *
        obtain ⟨p, y0⟩ := ph
        simp only at hd C0
        go_wp2_with fail
        go_loopg [10] i (fun gj s10 wi => ∃ j : Nat, j ≤ i ∧ i - j ≤ gj ∧ s10 = .int .i64 j ∧ Aside (Qt w5 wi))
        case atStart => exact ⟨0, by omega, by omega, rfl, QW.out⟩
        case round =>
          obtain ⟨j, hj, hgj, rfl, QI⟩ := hrel
          by_cases hji : j < i
          · have hjz : (j : Int) < (i : Int) := by omega
            have ne := NE.out j hji
            obtain ⟨d0, d1⟩ := U4.out j (by omega)
            have d0 := QI.out.cell d0
            have d1 := QI.out.cell d1
            have c0 := QI.out.cell C0.out.1
            have c1 := QI.out.cell C0.out.2
            generalize g.getD j (0, 0) = pj at *
            obtain ⟨pj, yj⟩ := pj
            simp only at d0 d1
            clear NE HNEW HVD U4 C0
            by_cases hq1 : (p == pj) = true
            · have hq2 : (y0 == yj) = false := by
                cases h : (y0 == yj)
                · rfl
                · exact absurd (by rw [beq_iff_eq.1 hq1, beq_iff_eq.1 h]) ne
              clear ne
              go_wp2
              go_quiet (fail)
              go_wp2
              go_roundg (i - (j + 1))
              case measure => omega
              case rel => exact ⟨j + 1, by omega, by omega, by go_num, QI.out.drewN _⟩
            · have hq3 : (p == pj) = false := by
                cases h : (p == pj)
                · rfl
                · exact absurd h hq1
              clear ne hq1
              go_wp2
              go_quiet (fail)
              go_wp2
              go_roundg (i - (j + 1))
              case measure => omega
              case rel => exact ⟨j + 1, by omega, by omega, by go_num, QI.out.drewN _⟩
          · have c0 := QI.out.cell C0.out.1
            have hp1 : ¬ (p < 0) := by omega
            have hp2 : ¬ (p > (i : Int)) := by omega
            clear NE HNEW HVD U4 C0 hd
            go_wp2
            go_roundg (L - (i + 1))
            case measure => omega
            case rel => exact ⟨i + 1, by omega, by omega, by go_num, QI.out⟩
      · go_wp2
        go_ret
        exact ⟨rfl, EW.out.trans QW.out.ext⟩

end Go.Proofs.Ytjgheojfdkfmkaa
