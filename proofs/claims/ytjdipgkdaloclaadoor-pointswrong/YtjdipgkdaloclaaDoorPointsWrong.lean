/-
  For any data, of which so many are wrong that twice as many are no more than there are more than needed, they are told: PointsWrong returns true for every number of places, all lists of numbers and all lists of bytes, and changes nothing; on its way lies the table by which the least set bit is found, tied to the program's text.
-/
import Derived.Test.YtjdipgkdaloclaaDoorFx
import Derived.Test.YtjdipgkdaloclaaDoorWg
import Derived.Test.YtjdipgkdaloclaaDoorPu
import Derived.Test.YtjdipgkdaloclaaDoorTr
import Derived.Test.YtjdipgkdaloclaaDoorNum
import Derived.Test.YtjdipgkdaloclaaDoorLd
import Derived.Test.YtjdipgkdaloclaaDoorOpen
import Derived.Test.YtjdipgkdaloclaaDoorCards
import Derived.Test.YtjdipgkdaloclaaDoorTie
import Derived.ProofKit
namespace Go.Proofs.YtjdipgkdaloclaaDoor
open Go.ChangeShapes Go.WideShapes Go.ChangeAt Go.RowKit Go.Deep
set_option linter.unusedVariables false

theorem open_byt {H : Type} {enc : TypeId × Value → H} {W : World} {base : Nat} {v : Value} {d : DataW H} {p : List MemPlace} (hok : Value.okWide Tryd.prog W .any base 32 v)
    (h : DataW.Trod enc Tryd.prog W 0 (fun _ => true) true 32 v d p) : ∃ x : Wd, v = x.v ∧ Bits W x ∧ Byt x.l := by
  obtain ⟨a0, len, cap, rfl⟩ := okWide_slice Tryd.underlying32 hok
  obtain ⟨fuel, hf⟩ := h
  rcases open_ints Tryd.underlying32 Tryd.underlying5 cells5 hf with ⟨hcs, hx⟩ | ⟨a, len', cap', zs, hcs, _, hl, hm, hlen, hx, hcell, hwf⟩
  · simp [Value.cells] at hcs
    obtain ⟨rfl, rfl, rfl⟩ := hcs
    exact ⟨⟨none, 0, []⟩, rfl, ⟨by simp, by simp, by simp, 0, 0, by simp, by simp⟩, fun b hb => by cases hb⟩
  · simp [Value.cells] at hcs
    obtain ⟨rfl, rfl, rfl⟩ := hcs
    simp only [if_true] at hlen
    have htl : (zs.take len).length = len := by rw [List.length_take]; omega
    refine ⟨⟨some a, cap, zs.take len⟩, by simp only [Wd.v]; rw [htl], ⟨by simp only; omega, hm, by simp, a.block, a.off, ?_, ?_⟩, fun b hb => hwf b (List.mem_of_mem_take hb)⟩
    · intro h0
      simp only at h0
      exact congrArg some (addr_plain (hcell 0 (by omega)))
    · intro i hi
      simp only at hi
      have h1 := cell_at (hcell 0 (by omega)) (hcell i (by omega))
      rw [h1]
      have : i < len := by omega
      simp [List.getD_eq_getElem?_getD, this]

/-- A byte, as a number. -/
abbrev by8 (x : Wd) (i : Nat) : Nat := (x.l.getD i 0).toNat
theorem by8_of {x : Wd} (h : Byt x.l) {i : Nat} (hi : i < x.l.length) : x.l.getD i 0 = ((by8 x i : Nat) : Int) ∧ by8 x i < 256 := by
  have h2 := h (x.l.getD i 0) (by
    rw [List.getD_eq_getElem?_getD, List.getElem?_eq_getElem hi]
    exact List.getElem_mem hi)
  have e1 : IntKind.u8.min = 0 := rfl
  have e2 : IntKind.u8.max = 255 := rfl
  simp only [Lit.wf, e1, e2, Bool.and_eq_true, decide_eq_true_eq] at h2
  constructor
  · show x.l.getD i 0 = (((x.l.getD i 0).toNat : Nat) : Int)
    omega
  · show (x.l.getD i 0).toNat < 256
    omega

theorem pue_zero {n : Int} {z : List Int} (h : pue n z = 0) : ∃ m : Nat, n = m ∧ m ≤ 9 ∧ 1 ≤ z.length ∧ z.length ≤ m ∧ ∃ d : List Nat, z = zl d ∧ ∀ c ∈ d, c < 16 := by
  unfold pue at h
  by_cases h0 : pc z.length n = 0
  · rw [if_pos h0] at h
    have := pc_zero h0
    obtain ⟨d, e, hd⟩ := zl_of (fe_zero h)
    exact ⟨n.toNat, by omega, by omega, by omega, by omega, d, e, hd⟩
  · rw [if_neg h0] at h
    exact absurd h h0

/-- A list that the call itself has made, as it begins. -/
theorem none_made (w : World) : OwnN w (w.alloc (.cells #[] 3)) (.slice (some ⟨w.heap.size, 0, none⟩) 0 0) [] :=
  ⟨(Ext.refl w).alloc _, by simp, .inr ⟨w.heap.size, 0, #[], rfl, Nat.le_refl _, heap_alloc_new w _, Nat.le_refl _, by simp, by simp, by simp⟩⟩

theorem Row.numsR {w : World} {g n cap : Nat} {U : Nat → Nat} {rest : List Value} (h : Row w g 3 (nf U n ++ rest)) (hc : n ≤ cap) (hm : cap ≤ maxLen) : Nums w ⟨some ⟨g, 0, none⟩, cap, zl (nl U n)⟩ := by
  refine ⟨by simpa using hc, hm, by simp, g, 0, fun _ => rfl, fun i hi => ?_⟩
  have hi2 : i < n := by simpa using hi
  rw [Nat.zero_add, h.cellR i hi2, zl_at, nl_at _ hi2]

set_option maxRecDepth 100000 in
theorem wrong_bad (n : Int) (y : Nm) (p r : Wd) (h0 : pue n y.z ≠ 0) (w : World) (hy : Nums w y) : Calls Tryd.prog 4 #[.int .i64 n, y.v, p.v, r.v] w fun e w' => e = .returned (.bool true) ∧ Ext w w' := by
  have c1 := Put_bad n y _ rfl h0 w hy
  have hz : (pue n y.z != 0) = true := bne_iff_ne.2 h0
  clear h0 hy
  generalize pue n y.z = X at *
  simp only [Nm.v, Wd.v] at *
  generalize y.z.length = m at *
  go_enter Tryd.func4, Tryd.ntmps4
  go_wp2_with fail
  refine c1.mono ?_
  rintro e w' ⟨rfl, hh⟩
  have hh := hh.symm
  subst hh
  clear c1
  go_wp2
  go_ret
  exact ⟨rfl, Ext.refl _⟩

set_option maxRecDepth 100000 in
set_option maxHeartbeats 2000000 in
theorem wrong_good (n : Nat) (d : List Nat) (hd : ∀ c ∈ d, c < 16) (h1 : 1 ≤ d.length) (h2 : d.length ≤ n) (h9 : n ≤ 9) (y : Nm) (ey : y.z = zl d) (p r : Wd) (hpb : Byt p.l) (hrb : Byt r.l) (w : World) (hy : Nums w y) (hp : Bits w p) (hr : Bits w r) (tb : TB w) :
    Calls Tryd.prog 4 #[.int .i64 n, y.v, p.v, r.v] w fun e w' => e = .returned (.bool true) ∧ Ext w w' := by
  have c1 := Put_good n d hd h1 h2 h9 y ey w hy
  have la : y.z.length = d.length := by rw [ey, zl_len]
  have hyv : y.v = .slice y.a d.length y.c := by rw [Nm.v, la]
  have V16 : ∀ i, i < n → ep d i < 16 := fun i hi => ev_lt (by omega) hd
  -- Fix, the comparison, the data again
  have FX : Hid (∀ (W : World) (g cap : Nat) (U : Nat → Nat), (∀ i, i < n → U i < 16) → Ext w W → Nums W ⟨some ⟨g, 0, none⟩, cap, zl (nl U n)⟩ → Calls Tryd.prog 5 #[.int .i64 d.length, .slice (some ⟨g, 0, none⟩) n cap] W fun e w' => Ext W w' ∧ ∃ (m : Nm) (X : Int), e = .returned (.tuple #[m.v, .int .i64 X]) ∧ Nums w' m ∧ Told (zl (nl U n)) d.length X m.z) := fun W g cap U hU E hN => by
    have := Fix_any d.length ⟨some ⟨g, 0, none⟩, cap, zl (nl U n)⟩ (fun x hx => by
      obtain ⟨c, hc, rfl⟩ := List.mem_map.1 hx
      obtain ⟨i, hi, rfl⟩ := List.mem_map.1 hc
      have := hU i (List.mem_range.1 hi)
      omega) h1 (by show _ ≤ (zl (nl U n)).length; simp; omega) (by show (zl (nl U n)).length ≤ 9; simp; omega) W hN (tb.ext E)
    simp only [Nm.v, zl_len, nl_len] at this ⊢
    exact this
  have DF : Hid (∀ (W : World) (B g cap : Nat) (U : Nat → Nat), Nums W ⟨some ⟨B, 0, none⟩, n, zl (nl (ep d) n)⟩ → Nums W ⟨some ⟨g, 0, none⟩, cap, zl (nl U n)⟩ → Calls Tryd.prog 11 #[.slice (some ⟨B, 0, none⟩) n n, .slice (some ⟨g, 0, none⟩) n cap] W fun e w' => e = .returned (.int .i64 (dfc (zl (nl (ep d) n)) (zl (nl U n)) n : Nat)) ∧ Ext W w') := fun W B g cap U n1 n2 => by
    have := differ_any _ _ (by simp) (by simp; omega) W n1 n2
    simp only [Nm.v, zl_len, nl_len] at this
    exact this
  have IN : Hid (∀ (W : World) (m : Nm), Ext w W → Nums W m → Calls Tryd.prog 9 #[m.v, y.v] W fun e w' => e = .returned (.bool (m.z == zl d)) ∧ Qt W w') := fun W m E hN => by
    have := ints_any m y W hN (hy.ext E)
    rw [ey] at this
    exact this
  have WN : Hid (∀ (U : Nat → Nat) (X : Int) (z : List Int), (∀ i, i < n → U i < 16) → 2 * dfc (zl (nl (ep d) n)) (zl (nl U n)) n + d.length ≤ n → Told (zl (nl U n)) d.length X z → X = 0 ∧ z = zl d) := fun U X z hU hc h => wrong_near h9 hU hd rfl h1 hc h
  have WF : Hid (∀ (U : Nat → Nat) (X : Int) (z : List Int), ¬ 2 * dfc (zl (nl (ep d) n)) (zl (nl U n)) n + d.length ≤ n → Told (zl (nl U n)) d.length X z → X = 5 ∨ (X = 0 ∧ z.length = d.length ∧ (z == zl d) = false)) := fun U X z hc h => wrong_far rfl hc h
  have DC : Hid (∀ U : Nat → Nat, dfc (zl (nl (ep d) n)) (zl (nl U n)) n ≤ n) := fun U => dfc_le _ _ _
  obtain ⟨k1, k2, _, pb, po, k3, k4⟩ := hp
  obtain ⟨l1, l2, _, rb, ro, l3, l4⟩ := hr
  have PC : Hid (∀ i, i < p.l.length → w.cell? ⟨pb, po + i, none⟩ = some (.int .u8 (by8 p i : Nat)) ∧ by8 p i < 256) := fun i hi => by
    have := by8_of hpb hi
    rw [k4 i hi, this.1]
    exact ⟨rfl, this.2⟩
  have RC : Hid (∀ i, i < r.l.length → w.cell? ⟨rb, ro + i, none⟩ = some (.int .u8 (by8 r i : Nat)) ∧ by8 r i < 256) := fun i hi => by
    have := by8_of hrb hi
    rw [l4 i hi, this.1]
    exact ⟨rfl, this.2⟩
  have PA : Hid (0 < p.l.length → p.a = some ⟨pb, po, none⟩) := k3
  have RA : Hid (0 < r.l.length → r.a = some ⟨rb, ro, none⟩) := l3
  have PM : p.l.length ≤ 9223372036854775807 := by unfold maxLen at k2; omega
  rw [hyv] at c1 IN ⊢
  simp only [Wd.v]
  clear hyv la hy hpb hrb tb k1 k2 k3 k4 l1 l2 l3 l4 hd
  generalize hPn : p.l.length = Pn at *
  generalize hRn : r.l.length = Rn at *
  generalize by8 p = pf8 at *
  generalize by8 r = rf8 at *
  clear hPn hRn
  generalize p.a = pa at *
  generalize p.c = pcc at *
  generalize r.a = ra at *
  generalize r.c = rcc at *
  generalize y.a = ya at *
  generalize y.c = yc at *
  obtain ⟨V, hV⟩ : ∃ V, V = ep d := ⟨_, rfl⟩
  rw [← hV] at c1 DF WN WF DC V16
  clear hV
  generalize zl d = DD at *
  generalize d.length = m at *
  have LV : Hid ((zl (nl V n)).length = n) := by rw [Hid, zl_len, nl_len]
  go_enter Tryd.func4, Tryd.ntmps4
  go_wp2_with fail
  refine c1.mono ?_
  rintro e w1 ⟨rfl, E1, R1⟩
  have N1 : Hid (Nums w1 ⟨some ⟨w.heap.size, 0, none⟩, n, zl (nl V n)⟩) := R1.numsF (by unfold maxLen; omega)
  have EE1 : Hid (Ext w w1) := E1
  clear c1 E1 R1
  have N2 : Hid (Nums (w1.alloc (.cells #[] 3)) ⟨some ⟨w.heap.size, 0, none⟩, n, zl (nl V n)⟩) := N1.out.ext ((Ext.refl _).alloc _)
  have NV : Hid (Value.slice (some ⟨w.heap.size, 0, none⟩) n n = (⟨some ⟨w.heap.size, 0, none⟩, n, zl (nl V n)⟩ : Nm).v) := by rw [Hid, Nm.v, LV.out]
  go_wp2_with (at_builtin; refine wpList_appendNums rfl _ _ rfl w1 _ (.slice (some ⟨w1.heap.size, 0, none⟩) 0 0) rfl [] (none_made w1) ⟨some ⟨w.heap.size, 0, none⟩, n, zl (nl V n)⟩ (by exact NV.out) N2.out (by rw [LV.out]; simp; omega) ?_; intro v2 w2 O2)
  rw [List.nil_append] at O2
  obtain ⟨g, cap, rest, rfl, hg, hgc, hgm, RX, hrl⟩ := O2.rowF (by omega)
  have E2 : Hid (Ext w1 w2) := O2.1
  have RX2 : Hid (Row w2 g 3 (nf V n ++ rest)) := RX
  have HV : Hid (∀ i, i < n → V i < 16) := V16
  clear O2 RX V16 N2 NV LV
  unfold maxLen at hgm
  have hn0 : ((n : Int) == 0) = false := beq_eq_false_iff_ne.2 (by omega)
  go_wp2
  go_loopg [12, 13, 36] Pn (fun gg _ _ s36 wr => ∃ (i : Nat) (U : Nat → Nat), i ≤ Pn ∧ Pn - i ≤ gg ∧ s36 = .int .i64 i ∧ Aside (Ext w1 wr) ∧ Aside (∀ j, j < n → U j < 16) ∧ Aside (Row wr g 3 (nf U n ++ rest)))
  case atStart => exact ⟨0, V, by omega, by omega, rfl, E2.out, HV.out, RX2.out⟩
  case round =>
    obtain ⟨i, U, hi, hgg, rfl, E, HU, R⟩ := hrel
    clear E2 RX2 HV
    by_cases hlt : i < Pn
    · have hltz : (i : Int) < (Pn : Int) := by omega
      obtain rfl := PA.out (by omega)
      have hcp := (EE1.out.trans E.out).cell (PC.out i hlt).1
      have hp8 := (PC.out i hlt).2
      by_cases hlr : i < Rn
      · have hlrz : (i : Int) < (Rn : Int) := by omega
        obtain rfl := RA.out (by omega)
        have hcr := (EE1.out.trans E.out).cell (RC.out i hlr).1
        have hr8 := (RC.out i hlr).2
        obtain ⟨q, hq⟩ : ∃ q, pf8 i % n = q := ⟨_, rfl⟩
        have hqn : q < n := by rw [← hq]; exact Nat.mod_lt _ (by omega)
        obtain ⟨u, hu⟩ : ∃ u, rf8 i % 16 = u := ⟨_, rfl⟩
        have hu16 : u < 16 := by omega
        have m1 : ((pf8 i : Nat) : Int).tmod (n : Int) = (q : Int) := by rw [← hq]; rfl
        have m2 : ((rf8 i : Nat) : Int).tmod 16 = (u : Int) := by rw [← hu]; rfl
        have m3 : ((pf8 i : Nat) : Int) % (n : Int) = (q : Int) := by rw [← hq]; rfl
        have m4 : ((rf8 i : Nat) : Int) % 16 = (u : Int) := by rw [← hu]; rfl
        have hc2 := R.out.cellR q hqn
        have hf2 := R.out.fr q
        have R2 : Hid (Row (wr.drew.setCell ⟨g, q, none⟩ (.int .i64 (u : Nat))) g 3 (nf (fun j => if j = q then u else U j) n ++ rest)) := (R.out.ext (ext_drew _)).setR hqn _ _ (fun j _ => rfl)
        have E3 : Hid (Ext w1 (wr.drew.setCell ⟨g, q, none⟩ (.int .i64 (u : Nat)))) := (E.out.trans (ext_drew _)).setCell (p := ⟨g, q, none⟩) hg _
        have HU2 : Hid (∀ j, j < n → (if j = q then u else U j) < 16) := fun j hj => by
          split
          · exact hu16
          · exact HU.out j hj
        clear hq hu E R HU PC RC FX DF IN WN WF DC
        generalize pf8 i = p8 at *
        generalize rf8 i = r8 at *
        generalize hUq : U q = uq at *
        clear hUq
        have hqz : (q : Int) < (n : Int) := by omega
        go_wp2_with fail
        have kr : wr.drew.cell? ⟨rb, ro + i, none⟩ = some (.int .u8 (r8 : Nat)) := hcr
        have kg : wr.drew.cell? ⟨g, q, none⟩ = some (.int .i64 (uq : Nat)) := hc2
        have fg : wr.drew.frozen? ⟨g, q, none⟩ = false := hf2
        refine wp_region_mix 12 (fun W => W = wr.drew) 13 (by rfl) (by kernel_rfl) ?_
        clear hcr hc2 hf2 hcp
        generalize wr.drew = W1 at *
        refine wpMix_take (v := .slice (some ⟨g, 0, none⟩) n cap) 0 (by rfl) (by kernel_rfl) ⟨by rfl, ?_⟩ ?_
        · rintro W rfl
          go_simp
        refine wpMix_take (v := .int .u8 (p8 : Nat)) 1 (by rfl) (by kernel_rfl) ⟨by rfl, ?_⟩ ?_
        · rintro W rfl
          go_simp
        refine wpMix_take (v := .int .i64 (p8 : Nat)) 2 (by rfl) (by kernel_rfl) ⟨by rfl, ?_⟩ ?_
        · rintro W rfl
          go_simp
          exact IntWalk.i64_in _ (by omega)
        refine wpMix_take (v := .int .i64 n) 3 (by rfl) (by kernel_rfl) ⟨by rfl, ?_⟩ ?_
        · rintro W rfl
          go_simp
        refine wpMix_take (v := .int .i64 q) 4 (by rfl) (by kernel_rfl) ⟨by rfl, ?_⟩ ?_
        · rintro W rfl
          go_simp
          omega
        refine wpMix_take (v := .slice (some ⟨rb, ro, none⟩) Rn rcc) 5 (by rfl) (by kernel_rfl) ⟨by rfl, ?_⟩ ?_
        · rintro W rfl
          go_simp
        refine wpMix_take (v := .int .i64 i) 6 (by rfl) (by kernel_rfl) ⟨by rfl, ?_⟩ ?_
        · rintro W rfl
          go_simp
        refine wpMix_take (v := .pointer (some ⟨rb, ro + i, none⟩)) 7 (by rfl) (by kernel_rfl) ⟨by rfl, ?_⟩ ?_
        · rintro W rfl
          go_simp
        refine wpMix_take (v := .int .u8 (r8 : Nat)) 8 (by rfl) (by kernel_rfl) ⟨by rfl, ?_⟩ ?_
        · rintro W rfl
          go_simp
        refine wpMix_take (v := .int .i64 (r8 : Nat)) 9 (by rfl) (by kernel_rfl) ⟨by rfl, ?_⟩ ?_
        · rintro W rfl
          go_simp
          exact IntWalk.i64_in _ (by omega)
        refine wpMix_take (v := .int .i64 u) 10 (by rfl) (by kernel_rfl) ⟨by rfl, ?_⟩ ?_
        · rintro W rfl
          go_simp
        refine wpMix_take (v := .pointer (some ⟨g, q, none⟩)) 11 (by rfl) (by kernel_rfl) ⟨by rfl, ?_⟩ ?_
        · rintro W rfl
          go_simp
        refine wpMix_last 12 (by kernel_rfl) (by kernel_rfl) (by rfl) (by rfl) (fun _ => rfl) (w' := W1.setCell ⟨g, q, none⟩ (.int .i64 (u : Nat))) ?_ (fun h => by cases h) ?_
        · go_simp
        generalize W1.setCell ⟨g, q, none⟩ (.int .i64 (u : Nat)) = W2 at *
        simp only [Act.put, List.setIfInBounds_toArray, List.set_cons_zero, List.set_cons_succ]
        go_wp2
        go_roundg (Pn - (i + 1))
        case measure => omega
        case rel => exact ⟨i + 1, _, by omega, by omega, by go_num, E3.out, HU2.out, R2.out⟩
      · have hlrz : ¬ (i : Int) < (Rn : Int) := by omega
        have E3 : Hid (Ext w1 wr) := E.out
        have HU2 : Hid (∀ j, j < n → U j < 16) := HU.out
        have R2 : Hid (Row wr g 3 (nf U n ++ rest)) := R.out
        clear E R HU PC RC FX DF IN WN WF DC
        generalize pf8 i = p8 at *
        go_wp2
        go_roundg (Pn - (i + 1))
        case measure => omega
        case rel => exact ⟨i + 1, U, by omega, by omega, by go_num, E3.out, HU2.out, R2.out⟩
    · obtain rfl : i = Pn := by omega
      have hnot : ¬ (i : Int) < (i : Int) := by omega
      have NX : Hid (Nums wr ⟨some ⟨g, 0, none⟩, cap, zl (nl U n)⟩) := R.out.numsR hgc (by unfold maxLen; omega)
      have EW : Hid (Ext w wr) := EE1.out.trans E.out
      have NL : Hid (Nums wr ⟨some ⟨w.heap.size, 0, none⟩, n, zl (nl V n)⟩) := N1.out.ext E.out
      have fx := FX.out wr g cap U HU.out EW.out NX.out
      have df : Hid (∀ W, Ext wr W → Calls Tryd.prog 11 #[.slice (some ⟨w.heap.size, 0, none⟩) n n, .slice (some ⟨g, 0, none⟩) n cap] W fun e w' => e = .returned (.int .i64 (dfc (zl (nl V n)) (zl (nl U n)) n : Nat)) ∧ Ext W w') := fun W E => DF.out W _ g cap U (NL.out.ext E) (NX.out.ext E)
      have wn : Hid (∀ (X : Int) (z : List Int), 2 * dfc (zl (nl V n)) (zl (nl U n)) n + m ≤ n → Told (zl (nl U n)) m X z → X = 0 ∧ z = DD) := fun X z => WN.out U X z HU.out
      have wf : Hid (∀ (X : Int) (z : List Int), ¬ 2 * dfc (zl (nl V n)) (zl (nl U n)) n + m ≤ n → Told (zl (nl U n)) m X z → X = 5 ∨ (X = 0 ∧ z.length = m ∧ (z == DD) = false)) := fun X z => WF.out U X z
      have dc := DC.out U
      clear FX DF WN WF DC PC RC E HU R N1 NX NL EE1 PA RA
      generalize dfc (zl (nl V n)) (zl (nl U n)) n = c at *
      go_wp2_with fail
      refine fx.mono ?_
      rintro e w3 ⟨E3, q, X, rfl, hN, hT⟩
      have df3 := df.out w3 E3
      have E4 : Hid (Ext w w3) := EW.out.trans E3
      have HN : Hid (Nums w3 q) := hN
      have HT : Hid (Told (zl (nl U n)) m X q.z) := hT
      clear fx df E3 EW hN hT
      have hqv : q.v = .slice q.a q.z.length q.c := rfl
      generalize hqq : q.v = qv at *
      have HQ : Hid (q.v = qv) := hqq
      have HQ2 : Hid (qv = .slice q.a q.z.length q.c) := hqv
      clear hqq hqv
      go_wp2_with fail
      refine df3.mono ?_
      rintro e w5 ⟨rfl, E5⟩
      have E6 : Hid (Ext w w5) := E4.out.trans E5
      have HN5 : Hid (Nums w5 q) := HN.out.ext E5
      have k9 := IN.out w5 q E6.out HN5.out
      rw [HQ.out] at k9
      clear df3 E5 HN E4 IN
      by_cases hc : 2 * c + m ≤ n
      · have hle : 2 * (c : Int) ≤ (n : Int) - (m : Int) := by omega
        obtain ⟨rfl, hr⟩ := wn.out X q.z hc HT.out
        rw [hr, beq_self_eq_true] at k9
        clear wn wf HT hr HQ HQ2 HN5
        go_wp2_with fail
        refine k9.mono ?_
        rintro e w6 ⟨rfl, q6⟩
        have E7 : Hid (Ext w w6) := E6.out.trans q6.ext
        clear k9 q6 E6
        go_wp2
        go_ret
        exact ⟨rfl, E7.out⟩
      · have hle : ¬ 2 * (c : Int) ≤ (n : Int) - (m : Int) := by omega
        rcases wf.out X q.z hc HT.out with rfl | ⟨rfl, hl, hne⟩
        · clear wn wf HT HQ HQ2 HN5 k9
          go_wp2
          go_ret
          exact ⟨rfl, E6.out⟩
        · rw [hne] at k9
          have hq2 := HQ2.out
          rw [hl] at hq2
          subst hq2
          clear wn wf HT HQ HQ2 HN5 hl hne
          go_wp2_with fail
          refine k9.mono ?_
          rintro e w6 ⟨rfl, q6⟩
          have E7 : Hid (Ext w w6) := E6.out.trans q6.ext
          clear k9 q6 E6
          go_wp2
          go_ret
          exact ⟨rfl, E7.out⟩

theorem wrong_walk (n : Int) (y : Nm) (p r : Wd) (hpb : Byt p.l) (hrb : Byt r.l) (w : World) (hy : Nums w y) (hp : Bits w p) (hr : Bits w r) (tb : TB w) : Calls Tryd.prog 4 #[.int .i64 n, y.v, p.v, r.v] w fun e w' => e = .returned (.bool true) ∧ Ext w w' := by
  by_cases h : pue n y.z = 0
  · obtain ⟨m, rfl, h9, h1, h2, d, e, hd⟩ := pue_zero h
    have hl : y.z.length = d.length := by rw [e, zl_len]
    exact wrong_good m d hd (by omega) (by omega) h9 y e p r hpb hrb w hy hp hr tb
  · exact wrong_bad n y p r h w hy

set_option maxRecDepth 100000 in
theorem pointsWrong_lifted (os : Os) (started : os.Started) (H : Type) (enc : TypeId × Value → H) :
    ReturnsInHanded {} Tryd.checked os 4 .any (fun w args => (Rows.pointsWrongSpec.pre enc Tryd.prog Tryd.f4 [] false w args ∧ laidMetH Tryd.prog Rows.pointsWrongRow.laid w) ∧ sizedMet enc Tryd.prog Tryd.f4 (OpenSpec.ofChange Rows.pointsWrongSpec) false w args)
      (Rows.pointsWrongSpec.post enc Tryd.prog Tryd.f4 false true false false) := by
  refine returnsInHanded_of_change_and (C := Tryd.checked) (X := fun w _ => laidMetH Tryd.prog Rows.pointsWrongRow.laid w) (fun _ _ _ hh h => h.of_heap hh) own started (by kernel_rfl) Tryd.func4
    (ChangeSpec.witness_shaped (enc := enc) (C := Tryd.checked) (os := os) (X := fun w _ => laidMetH Tryd.prog Rows.pointsWrongRow.laid w) false (World.doorLaid Tryd.prog 400 os) #[.int .i64 0, .slice none 0 0, .slice none 0 0, .slice none 0 0] 8 rfl (World.shaped_of_RefB (by kernel_rfl) (by kernel_rfl)) (by kernel_rfl) (by kernel_rfl) (by kernel_rfl) (door_met os _)) ?_
  intro W base args ds gs before hval0 hW _ _ hL _
  have hval : ∀ (j : Nat) t v, Tryd.f4.params[j]? = some t → args[j]? = some v → Value.okWide Tryd.prog W .any base t v := hval0
  have hW' := hW
  obtain ⟨p, q, hA0, hV, rfl, hfz, hnd⟩ := hW
  have hA : DataW.TrodAll enc Tryd.prog W 0 (fun _ => true) true Tryd.f4.params.toList args.toList ds p := hA0
  rw [Tryd.params4] at hA hval
  obtain ⟨v0, vs0, d0, ds0, p0, q0, hargs, rfl, rfl, h0, r0⟩ := trodAll_cons hA
  obtain ⟨v1, vs1, d1, ds1, p1, q1, rfl, rfl, rfl, h1, r1⟩ := trodAll_cons r0
  obtain ⟨v2, vs2, d2, ds2, p2, q2, rfl, rfl, rfl, h2, r2⟩ := trodAll_cons r1
  obtain ⟨v3, vs3, d3, ds3, p3, q3, rfl, rfl, rfl, h3, r3⟩ := trodAll_cons r2
  obtain ⟨rfl, rfl, rfl⟩ := trodAll_nil r3
  obtain rfl : args = #[v0, v1, v2, v3] := by cases args; simp_all
  obtain ⟨rfl, rfl⟩ := trodVars_none hV
  have lt0 : ∀ x ∈ p0, x.block < W.heap.size := by obtain ⟨m, hm⟩ := h0; exact DataW.trod_lt m _ _ _ hm
  obtain ⟨x0, rfl, -, -, wf0⟩ := open_int Tryd.underlying3 (hval 0 3 v0 rfl rfl) h0
  have lt1 : ∀ x ∈ p1, x.block < W.heap.size := by obtain ⟨m, hm⟩ := h1; exact DataW.trod_lt m _ _ _ hm
  obtain ⟨x1, rfl, w1⟩ := open_syms (hval 1 22 v1 rfl rfl) h1
  have lt2 : ∀ x ∈ p2, x.block < W.heap.size := by obtain ⟨m, hm⟩ := h2; exact DataW.trod_lt m _ _ _ hm
  obtain ⟨x2, rfl, w2, y2⟩ := open_byt (hval 2 32 v2 rfl rfl) h2
  have lt3 : ∀ x ∈ p3, x.block < W.heap.size := by obtain ⟨m, hm⟩ := h3; exact DataW.trod_lt m _ _ _ hm
  obtain ⟨x3, rfl, w3, y3⟩ := open_byt (hval 3 32 v3 rfl rfl) h3
  clear hA0 hval0
  refine (wrong_walk x0 x1 x2 x3 y2 y3 W w1 w2 w3 (of_laid hL)).mono fun e W' ⟨he, bel⟩ => ?_
  subst he
  exact ⟨_, rfl, _, _, _, [], _, [], hW', trodAll_mk1 (shut_bool Tryd.underlying4 _), (trodAll_cons_mk (Below.trod laidOut (by kernel_rfl) (of_decide_eq_true (by kernel_rfl)) h0 bel lt0) (trodAll_cons_mk (Below.trod laidOut (by kernel_rfl) (of_decide_eq_true (by kernel_rfl)) h1 bel lt1) (trodAll_cons_mk (Below.trod laidOut (by kernel_rfl) (of_decide_eq_true (by kernel_rfl)) h2 bel lt2) (trodAll_cons_mk (Below.trod laidOut (by kernel_rfl) (of_decide_eq_true (by kernel_rfl)) h3 bel lt3) trodAll_mk0)))), rfl, bel.frame _, fun h => by cases h⟩

theorem pointsWrong_holds : Rows.PointsWrongSaid :=
  OpenClaim.holds_of_wide 4 Tryd.f4 rfl rfl rfl rfl rfl rfl rfl ⟨rfl, rfl, rfl, rfl, rfl⟩ rfl rfl rfl rfl rfl (by kernel_rfl) Tryd.func4 (by kernel_rfl)
    (of_decide_eq_true (by kernel_rfl)) (by unfold Func.isWrapper; first | (rw [if_pos (by decide +kernel)]; kernel_rfl) | (rw [if_neg (by decide +kernel)]; exact ⟨rfl, rfl⟩))
    (fun os started H enc _ => pointsWrong_lifted os started H enc)

/-- The tied card. -/
theorem pointsWrong_card : Rows.PointsWrongCardSaid :=
  Claim7.holds_tied_plain_at .later [] [.data] true (true, "effe0f8b614620ce45b2be6658ca2675bddeade50248e57838a14a321e6d57dd") false
    pointsWrong_holds (fun _ h => by cases h) (by kernel_rfl) (fun _ h => by cases h) pointsWrong_row_tie rfl ⟨rfl, rfl⟩ (by kernel_rfl) rfl
    (fun f fn hf hfn => by
      obtain rfl : f = 4 := Option.some.inj ((show Tryd.prog.funcNamed "quipu/quipukeep.PointsWrong" = some 4 by kernel_rfl).symm.trans hf) |>.symm
      obtain rfl : fn = Tryd.f4 := (Option.some.inj (Tryd.func4.symm.trans hfn)).symm
      exact ⟨by kernel_rfl, fun j t ht => by
        rw [Tryd.params4] at ht
        have hm : t ∈ [3, 22, 32, 32] := by simpa using Array.mem_of_getElem? ht
        have hall : ([3, 22, 32, 32].all fun u => !Tryd.prog.wantsStandIn u) = true := by kernel_rfl
        exact (show Tryd.prog.wantsStandIn t = false by simpa using List.all_eq_true.1 hall t hm)⟩)
    (by kernel_rfl)

#print axioms pointsWrong_card

end Go.Proofs.YtjdipgkdaloclaaDoor
