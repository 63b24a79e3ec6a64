/-
  For any number and any bits behind it: what was told of it is read, whatever stands behind: EliasBack returns true for every number and every list of bits, and changes nothing.
-/
import Derived.Test.YtenpinjbeejamaaOpen
import Derived.Test.YtenpinjbeejamaaRfg
import Derived.Test.YtenpinjbeejamaaRdg
namespace Go.Proofs.Ytenpinjbeejamaa
open Go.ChangeShapes Go.WideShapes Go.ChangeAt Go.RowKit Go.Deep
set_option linter.unusedVariables false

theorem OwnB.empty (w : World) : OwnB w (w.alloc (.cells #[] 4)) (.slice (some ⟨w.heap.size, 0, none⟩) 0 0) [] :=
  ⟨(Ext.refl w).alloc _, by simp, .inr ⟨w.heap.size, 0, #[], rfl, Nat.le_refl _, heap_alloc_new w _, by simp, by unfold maxLen; omega, rfl, rfl⟩⟩

set_option maxHeartbeats 4000000 in
theorem eliasBack_walk (n : Int) (y : Wd) (w : World) (hy : Bits w y) (hlen : y.l.length ≤ 140737488351232) : Calls Try.prog 7 #[.int .i64 n, y.v] w fun e w' => e = .returned (.bool true) ∧ Ext w w' := by
  by_cases hr : 1 ≤ n ∧ n ≤ 1048576
  · obtain ⟨m, rfl⟩ := Int.eq_ofNat_of_zero_le (show 0 ≤ n by omega)
    have h0 : m ≠ 0 := by omega
    have hn : m ≤ 1048576 := by omega
    have hg := Gamma_good m h0 hn w
    have hd : Hid (∀ W, Calls Try.prog 12 #[.int .i64 (m : Int)] W fun e w' => ∃ v, e = .returned (.tuple #[v, .int .i64 0]) ∧ Told W w' v (del m)) := fun W => Delta_good m h0 hn W
    have hb1 : ¬ ((m : Int) < 1) := by omega
    have hb2 : ¬ ((m : Int) > 1048576) := by omega
    have h21 := nd_21 hn
    have h22 := nd_21 (n := nd m) (by omega)
    have RG : Hid (∀ (x : Wd) W, Bits W x → x.l = gam m ++ y.l → Calls Try.prog 14 #[x.v] W fun e w' => e = .returned (.tuple #[.int .i64 (m : Int), .int .i64 ((gam m).length : Int), .int .i64 0]) ∧ w' = W) := fun x W hx he => by
      have := readGamma_any x W hx
      rw [he, rdG_gam h0 hn] at this
      exact this
    have RD : Hid (∀ (x : Wd) W, Bits W x → x.l = del m ++ y.l → Calls Try.prog 16 #[x.v] W fun e w' => e = .returned (.tuple #[.int .i64 (m : Int), .int .i64 ((del m).length : Int), .int .i64 0]) ∧ w' = W) := fun x W hx he => by
      have := readDelta_any x W hx
      rw [he, rdD_del h0 hn] at this
      exact this
    have hgl : (gam m).length ≤ 100 := by rw [gam_length]; omega
    have hdl : (del m).length ≤ 100 := by rw [del_length]; omega
    have HGL : Hid ((gam m).length ≤ 100 ∧ (del m).length ≤ 100 ∧ y.l.length ≤ 140737488351232) := ⟨hgl, hdl, hlen⟩
    have HY : Hid (Bits w y) := hy
    clear hr hgl hdl h21 h22 hy hlen
    generalize gam m = G at *
    generalize del m = D at *
    obtain ⟨yn, hyn⟩ : ∃ yn, y.l.length = yn := ⟨_, rfl⟩
    have HYN : Hid (Value.slice y.a yn y.c = y.v) := by show _ = y.v; rw [← hyn]
    simp only [Wd.v]
    rw [hyn]
    clear hyn
    go_enter Try.func7, Try.ntmps7
    go_wp2_with fail
    refine hg.mono ?_
    rintro e w1 ⟨v, rfl, ⟨x, rfl, hx, hbx⟩, he⟩
    have HX : Hid (x.l = G ∧ Bits w1 x ∧ Ext w w1) := ⟨hx, hbx, he⟩
    clear hg hx hbx he
    obtain ⟨gn, hgn⟩ : ∃ gn, x.l.length = gn := ⟨_, rfl⟩
    have HGN : Hid (Value.slice x.a gn x.c = x.v ∧ gn = G.length) := ⟨by rw [← hgn], by rw [← hgn, HX.out.1]⟩
    simp only [Wd.v]
    rw [hgn]
    clear hgn
    go_wp2_with fail
    refine (hd.out w1).mono ?_
    rintro e w2 ⟨v, rfl, ⟨z, rfl, hz, hbz⟩, he⟩
    have HZ : Hid (z.l = D ∧ Bits w2 z ∧ Ext w w2 ∧ Bits w2 x) := ⟨hz, hbz, HX.out.2.2.trans he, HX.out.2.1.ext he⟩
    clear hd hz hbz he
    obtain ⟨dn, hdn⟩ : ∃ dn, z.l.length = dn := ⟨_, rfl⟩
    have HDN : Hid (Value.slice z.a dn z.c = z.v ∧ dn = D.length) := ⟨by rw [← hdn], by rw [← hdn, HZ.out.1]⟩
    simp only [Wd.v]
    rw [hdn]
    clear hdn
    have O1 : Hid (OwnB w2 (w2.alloc (.cells #[] 4)) (.slice (some ⟨w2.heap.size, 0, none⟩) 0 0) []) := OwnB.empty w2
    have B1 : Hid (Bits (w2.alloc (.cells #[] 4)) x) := HZ.out.2.2.2.ext ((Ext.refl _).alloc _)
    have L1 : Hid (([] : List Bool).length + x.l.length ≤ 140737488355328) := by show _ ≤ _; rw [HX.out.1]; simp; have := HGL.out.1; omega
    have L2 : Hid (([] ++ x.l).length + y.l.length ≤ 140737488355328) := by show _ ≤ _; rw [HX.out.1]; simp; have := HGL.out; omega
    have YE : Hid (∀ W, Ext w2 W → Bits W y) := fun W e => HY.out.ext (HZ.out.2.2.1.trans e)
    go_wp2_with (first
      | (at_builtin; refine wpList_appendBits rfl _ _ rfl w2 _ q3.v (by rfl) ([] ++ x.l) A3.out y (by show Value.slice _ _ _ = _; exact HYN.out) (YE.out _ A3.out.1) L2.out ?_; intro v4 w4 A4')
      | (at_builtin; refine wpList_appendBits rfl _ _ rfl w2 _ (.slice (some ⟨w2.heap.size, 0, none⟩) 0 0) (by rfl) [] O1.out x (by show Value.slice _ _ _ = _; exact HGN.out.1) B1.out L1.out ?_; intro v3 w3 A3'; obtain ⟨q3, rfl, -, -⟩ := A3'.bits; have A3 : Hid (OwnB w2 w3 q3.v ([] ++ x.l)) := A3'; clear A3'))
    obtain ⟨q4, rfl, hq4, hb4⟩ := A4'.bits
    have E4 : Hid (Ext w2 w4) := A4'.1
    have hrg := RG.out q4 w4 hb4 (by rw [hq4, List.nil_append, HX.out.1])
    clear A4' A3 hq4 hb4 O1 B1 L1 L2 RG
    go_wp2_with fail
    refine hrg.mono ?_
    rintro e w5 ⟨rfl, rfl⟩
    clear hrg
    have O2 : Hid (OwnB w5 (w5.alloc (.cells #[] 4)) (.slice (some ⟨w5.heap.size, 0, none⟩) 0 0) []) := OwnB.empty w5
    have B2 : Hid (Bits (w5.alloc (.cells #[] 4)) z) := (HZ.out.2.1.ext E4.out).ext ((Ext.refl _).alloc _)
    have L3 : Hid (([] : List Bool).length + z.l.length ≤ 140737488355328) := by show _ ≤ _; rw [HZ.out.1]; simp; have := HGL.out.2.1; omega
    have L4 : Hid (([] ++ z.l).length + y.l.length ≤ 140737488355328) := by show _ ≤ _; rw [HZ.out.1]; simp; have := HGL.out.2; omega
    have YE2 : Hid (∀ W, Ext w5 W → Bits W y) := fun W e => YE.out W (E4.out.trans e)
    clear YE
    go_wp2_with (first
      | (at_builtin; refine wpList_appendBits rfl _ _ rfl w5 _ q6.v (by rfl) ([] ++ z.l) A6.out y (by show Value.slice _ _ _ = _; exact HYN.out) (YE2.out _ A6.out.1) L4.out ?_; intro v7 w7 A7')
      | (at_builtin; refine wpList_appendBits rfl _ _ rfl w5 _ (.slice (some ⟨w5.heap.size, 0, none⟩) 0 0) (by rfl) [] O2.out z (by show Value.slice _ _ _ = _; exact HDN.out.1) B2.out L3.out ?_; intro v6 w6 A6'; obtain ⟨q6, rfl, -, -⟩ := A6'.bits; have A6 : Hid (OwnB w5 w6 q6.v ([] ++ z.l)) := A6'; clear A6'))
    obtain ⟨q7, rfl, hq7, hb7⟩ := A7'.bits
    have E7 : Hid (Ext w w7) := (HZ.out.2.2.1.trans E4.out).trans A7'.1
    have hrd := RD.out q7 w7 hb7 (by rw [hq7, List.nil_append, HZ.out.1])
    have hg1 : gn = G.length := HGN.out.2
    have hd1 : dn = D.length := HDN.out.2
    subst hg1
    subst hd1
    clear A7' A6 hq7 hb7 O2 B2 L3 L4 RD
    go_wp2_with fail
    refine hrd.mono ?_
    rintro e w8 ⟨rfl, rfl⟩
    clear hrd
    go_wp2
    go_ret
    exact ⟨ret_bool (by simp), E7.out⟩
  · have hg := Gamma_bad n hr w
    have hd : Hid (∀ W, Calls Try.prog 12 #[.int .i64 n] W fun e w' => e = .returned (.tuple #[.slice none 0 0, .int .i64 4]) ∧ w' = W) := fun W => Delta_bad n hr W
    obtain ⟨ya, yc, yl⟩ := y
    simp only [Wd.v]
    generalize yl.length = yn at *
    clear hy hlen
    by_cases h1 : n < 1
    · clear hr
      go_enter Try.func7, Try.ntmps7
      go_wp2_with fail
      refine hg.mono ?_
      rintro e w1 ⟨rfl, rfl⟩
      clear hg
      go_wp2_with fail
      refine (hd.out w1).mono ?_
      rintro e w2 ⟨rfl, rfl⟩
      clear hd
      go_wp2
      go_ret
      exact ⟨rfl, Ext.refl _⟩
    · have h2 : n > 1048576 := by omega
      clear hr
      go_enter Try.func7, Try.ntmps7
      go_wp2_with fail
      refine hg.mono ?_
      rintro e w1 ⟨rfl, rfl⟩
      clear hg
      go_wp2_with fail
      refine (hd.out w1).mono ?_
      rintro e w2 ⟨rfl, rfl⟩
      clear hd
      go_wp2
      go_ret
      exact ⟨rfl, Ext.refl _⟩

set_option maxRecDepth 100000 in
theorem eliasBack_lifted (os : Os) (started : os.Started) (H : Type) (enc : TypeId × Value → H) :
    ReturnsInHanded {} Try.checked os 7 .any (Rows.eliasBackSpec.pre6 enc Try.prog Try.f7 Rows.eliasBackRow.domain false) (Rows.eliasBackSpec.post enc Try.prog Try.f7 false true false false) := by
  refine returnsInHanded_of_change_sized (C := Try.checked) own started (by kernel_rfl) Try.func7
    (ChangeSpec.witness6 (enc := enc) (C := Try.checked) false ⟨#[], #[.int .i64 0, .slice none 0 0], []⟩ 8 (by kernel_rfl) (by kernel_rfl) (by kernel_rfl) (by kernel_rfl)) ?_
  intro W base args ds gs before hval0 hW _ hsz0 _
  have hval : ∀ (j : Nat) t v, Try.f7.params[j]? = some t → args[j]? = some v → Value.okWide Try.prog W .any base t v := hval0
  have hW' := hW
  obtain ⟨p, q, hA0, hV, rfl, hfz, hnd⟩ := hW
  have hA : DataW.TrodAll enc Try.prog W 0 (fun _ => true) true Try.f7.params.toList args.toList ds p := hA0
  have hsz : (DataW.weightsEach Try.prog (Try.f7.params.toList ++ Rows.eliasBackSpec.plain.varTypes Try.prog) (ds ++ gs)).all (· ≤ reachBytes) = true := hsz0
  rw [Try.params7] at hA hval hsz
  obtain ⟨v0, vs0, d0, ds0, p0, q0, hargs, rfl, rfl, h0, r0⟩ := trodAll_cons hA
  obtain ⟨v1, vs1, d1, ds1, p1, q1, rfl, rfl, rfl, h1, r1⟩ := trodAll_cons r0
  obtain ⟨rfl, rfl, rfl⟩ := trodAll_nil r1
  obtain rfl : args = #[v0, v1] := by cases args; simp_all
  obtain ⟨rfl, rfl⟩ := trodVars_none hV
  have lt0 : ∀ x ∈ p0, x.block < W.heap.size := by obtain ⟨m, hm⟩ := h0; exact DataW.trod_lt m _ _ _ hm
  obtain ⟨x0, rfl, -, -, wf0⟩ := open_int Try.underlying3 (hval 0 3 v0 rfl rfl) h0
  have lt1 : ∀ x ∈ p1, x.block < W.heap.size := by obtain ⟨m, hm⟩ := h1; exact DataW.trod_lt m _ _ _ hm
  obtain ⟨x1, rfl, w1, z1⟩ := open_word_sized (hval 1 22 v1 rfl rfl) h1
  have b1 : x1.l.length * 1 ≤ reachBytes := by
    rcases z1 with z | ⟨es, sp, rfl, hes⟩
    · rw [z]; simp [reachBytes]
    · have := sized_slice hsz (j := 1) (t := 22) (e := 4) rfl rfl Try.underlying22
      rw [bytes4] at this
      omega
  clear hA0 hval0
  refine (eliasBack_walk x0 x1 W w1 (by unfold reachBytes at b1; omega)).mono fun e W' ⟨he, bel⟩ => ?_
  subst he
  exact ⟨_, rfl, _, _, _, [], _, [], hW', trodAll_mk1 (shut_bool Try.underlying4 _), (trodAll_cons_mk (Below.trod laidOut (by kernel_rfl) (of_decide_eq_true (by kernel_rfl)) h0 bel lt0) (trodAll_cons_mk (Below.trod laidOut (by kernel_rfl) (of_decide_eq_true (by kernel_rfl)) h1 bel lt1) trodAll_mk0)), rfl, bel.frame _, fun h => by cases h⟩

theorem eliasBack_holds : Rows.EliasBackSaid :=
  OpenClaim.holds_of_wide 7 Try.f7 rfl rfl rfl rfl rfl rfl rfl ⟨rfl, rfl, rfl, rfl, rfl⟩ rfl rfl rfl rfl rfl (by kernel_rfl) Try.func7 (by kernel_rfl)
    (of_decide_eq_true (by kernel_rfl)) (by unfold Func.isWrapper; rw [if_neg (of_decide_eq_false (by kernel_rfl))]; exact ⟨rfl, rfl⟩)
    (fun os started H enc _ => eliasBack_lifted os started H enc)

#print axioms eliasBack_holds

end Go.Proofs.Ytenpinjbeejamaa
