/-
  For any data and any two places: with the bits there turned they are told, and how many were: BoseTwo returns true for every list of bits and every two bytes, and changes nothing.
-/
import Derived.Test.YtfngcoijbnhheaaOpen
import Derived.Test.YtfngcoijbnhheaaLw
import Derived.Test.YtfngcoijbnhheaaFx
import Derived.Test.YtfngcoijbnhheaaDf
import Derived.ProofKit
namespace Go.Proofs.Ytfngcoijbnhheaa
open Go.ChangeShapes Go.WideShapes Go.ChangeAt Go.RowKit Go.Deep
set_option linter.unusedVariables false

theorem ct_no {f : Nat → Bool} : ∀ n, (∀ i, i < n → f i = false) → ct f n = 0
  | 0, _ => rfl
  | n + 1, h => by
    show ct f n + _ = 0
    rw [ct_no n (fun i hi => h i (by omega)), h n (by omega)]; rfl
theorem ct_one {f : Nat → Bool} (i : Nat) : ∀ n, (∀ k, k < n → f k = true → k = i) → ct f n ≤ 1
  | 0, _ => by show 0 ≤ 1; omega
  | n + 1, h => by
    show ct f n + _ ≤ 1
    cases hf : f n
    · have := ct_one i n (fun k hk => h k (by omega))
      simpa using this
    · have e := h n (by omega) hf
      rw [ct_no n (fun k hk => by
        cases hk' : f k
        · rfl
        · have := h k (by omega) hk'
          omega)]
      simp
theorem df_tn (l : List Bool) (i : Nat) : df l (tn l i) ≤ 1 := by
  unfold df
  refine ct_one i _ (fun k hk h => ?_)
  rcases Nat.decEq k i with e | e
  · exfalso
    rw [bne_iff_ne] at h
    apply h
    unfold tn
    rw [List.getD_eq_getElem?_getD, List.getD_eq_getElem?_getD, List.getElem?_set_ne (fun h' => e h'.symm)]
  · exact e
theorem df_two (l : List Bool) (i j : Nat) : df l (tn (tn l i) j) ≤ 2 := by
  have h1 := df_tri (x := l) (y := tn l i) (z := tn (tn l i) j) (tn_len l i).symm
  have h2 := df_tn l i
  have h3 := df_tn (tn l i) j
  omega

set_option maxRecDepth 100000 in
theorem boseTwo_bad (x : Wd) (k j : Int) (hl : x.l.length ≠ 7) (w : World) : Calls Try.prog 5 #[x.v, .int .u8 k, .int .u8 j] w fun e w' => e = .returned (.bool true) ∧ Ext w w' := by
  have c1 := bPut_bad x hl w
  have hz : ¬ (x.l.length : Int) = 7 := by omega
  simp only [Wd.v] at *
  generalize x.l.length = n at *
  go_enter Try.func5, Try.ntmps5
  go_wp2_with fail
  refine c1.mono ?_
  rintro e w1 ⟨rfl, rfl⟩
  clear c1
  go_wp2
  go_ret
  exact ⟨rfl, Ext.refl _⟩

set_option maxHeartbeats 4000000 in
set_option maxRecDepth 100000 in
theorem boseTwo_good (x : Wd) (k j : Nat) (hk : k < 256) (hj : j < 256) (hl : x.l.length = 7) (w : World) (hx : Bits w x) : Calls Try.prog 5 #[x.v, .int .u8 k, .int .u8 j] w fun e w' => e = .returned (.bool true) ∧ Ext w w' := by
  have c1 := bPut_good x hl w hx
  have hm := rem_at k 15
  have hm' := rem_at j 15
  obtain ⟨a, hia⟩ : ∃ a, k % 15 = a := ⟨_, rfl⟩
  obtain ⟨b, hib⟩ : ∃ b, j % 15 = b := ⟨_, rfl⟩
  rw [hia] at hm
  rw [hib] at hm'
  have ha : a < 15 := by omega
  have hb : b < 15 := by omega
  have he : (k : Int) % 15 = (a : Int) := by omega
  have he' : (j : Int) % 15 = (b : Int) := by omega
  have hmz : (k : Int).tmod 15 = (a : Int) := hm
  have hmz' : (j : Int).tmod 15 = (b : Int) := hm'
  clear hia hib hm hm'
  have HL : Hid ((bo x.l).length = 15) := bo_len hl
  have HT : Hid (∀ (z : Wd) W, z.l = bo x.l → Bits W z → Calls Try.prog 12 #[z.v, .slice (some ⟨W.heap.size, 0, none⟩) 2 2] (W.alloc (.cells #[.int .i64 (a : Nat), .int .i64 (b : Nat)] 3)) fun e w' => ∃ v, e = .returned v ∧ OwnB W w' v (tn (tn (bo x.l) a) b)) := fun z W h hb' => by
    have hz : z.l.length = 15 := by rw [h]; exact bo_len hl
    have := turned_two z (by omega) (by omega) a b (by omega) (by omega) W hb'
    rw [h] at this
    exact this
  have HF : Hid (∀ (z : Wd) W, z.l = tn (tn (bo x.l) a) b → Bits W z → Calls Try.prog 10 #[z.v] W fun e w' => ∃ y : Wd, e = .returned (.tuple #[y.v, .int .i64 (df (bo x.l) (tn (tn (bo x.l) a) b) : Nat), .int .i64 0]) ∧ y.l = x.l ∧ Bits w' y ∧ Ext W w') := fun z W h hb' => by
    have hz : z.l.length = 15 := by rw [h, tn_len, tn_len]; exact bo_len hl
    have hf := fx_near hz hl (by rw [h]; exact df_two _ _ _)
    rw [h] at hf
    exact bFix_some z hz _ _ (by rw [h]; exact hf) W hb'
  have HB : Hid (∀ (y : Wd) W, y.l = x.l → Bits W y → Ext w W → Calls Try.prog 8 #[y.v, .slice x.a 7 x.c] W fun e w' => e = .returned (.bool true) ∧ Qt W w') := fun y W h hb' e => by
    have := bools_any y x W hb' (hx.ext e)
    rw [h, beq_self_eq_true] at this
    have hv : x.v = .slice x.a 7 x.c := by rw [Wd.v, hl]
    rw [← hv]
    exact this
  have HD : Hid (∀ (p q : Wd) (W : World), p.l = bo x.l → q.l = tn (tn (bo x.l) a) b → Bits W p → Bits W q → Calls Try.prog 13 #[p.v, q.v] W fun e w' => e = .returned (.int .i64 (df (bo x.l) (tn (tn (bo x.l) a) b) : Nat)) ∧ Qt W w') := fun p q W hp hq hbp hbq => by
    have := differ_any p q (by rw [hp, hq, tn_len, tn_len]) (by rw [hp, bo_len hl]; omega) W hbp hbq
    rw [hp, hq] at this
    exact this
  clear hx
  rw [Wd.v, hl] at *
  generalize df (bo x.l) (tn (tn (bo x.l) a) b) = D at *
  generalize tn (tn (bo x.l) a) b = Z at *
  generalize bo x.l = X at *
  have HP : Hid (∀ p : Wd, p.l = X → ∃ a c, p.v = .slice a 15 c) := fun p hp => ⟨p.a, p.c, by rw [Wd.v, hp, HL.out]⟩
  clear HL hl
  go_enter Try.func5, Try.ntmps5
  go_wp2_with fail
  refine c1.mono ?_
  rintro e w1 ⟨p, rfl, hp, hb', E1⟩
  obtain ⟨pa, pc', hpv⟩ := HP.out p hp
  have HV : Hid (p.v = .slice pa 15 pc') := hpv
  have P1 : Hid (p.l = X ∧ Bits w1 p) := ⟨hp, hb'⟩
  have E : Hid (Ext w w1) := E1
  rw [hpv]
  clear c1 hp hb' E1 HP hpv
  go_wp2_with fail
  have k2 := HT.out p w1 P1.out.1 P1.out.2
  rw [HV.out] at k2
  refine k2.mono ?_
  rintro e w2 ⟨v, rfl, O2⟩
  obtain ⟨z, rfl, hz, hbz⟩ := O2.bits
  have Z2 : Hid (z.l = Z ∧ Bits w2 z) := ⟨hz, hbz⟩
  have P2 : Hid (p.l = X ∧ Bits w2 p) := ⟨P1.out.1, P1.out.2.ext O2.1⟩
  have E2 : Hid (Ext w w2) := E.out.trans O2.1
  obtain ⟨zv, hzv⟩ : ∃ v, z.v = v := ⟨_, rfl⟩
  have HZV : Hid (z.v = zv) := hzv
  rw [hzv]
  clear k2 HT hz hbz O2 P1 E hzv
  go_wp2_with fail
  have k3 := HF.out z w2 Z2.out.1 Z2.out.2
  rw [HZV.out] at k3
  refine k3.mono ?_
  rintro e w3 ⟨y, rfl, hy, hby, E3⟩
  have Y3 : Hid (y.l = x.l ∧ Bits w3 y) := ⟨hy, hby⟩
  have Z3 : Hid (z.l = Z ∧ Bits w3 z) := ⟨Z2.out.1, Z2.out.2.ext E3⟩
  have P3 : Hid (p.l = X ∧ Bits w3 p) := ⟨P2.out.1, P2.out.2.ext E3⟩
  have E3' : Hid (Ext w w3) := E2.out.trans E3
  obtain ⟨yv, hyv⟩ : ∃ v, y.v = v := ⟨_, rfl⟩
  have HYV : Hid (y.v = yv) := hyv
  rw [hyv]
  clear k3 HF hy hby E3 Z2 P2 E2 hyv
  go_wp2_with fail
  have k4 := HB.out y w3 Y3.out.1 Y3.out.2 E3'.out
  rw [HYV.out] at k4
  refine k4.mono ?_
  rintro e w4 ⟨rfl, Q4⟩
  have Z4 : Hid (z.l = Z ∧ Bits w4 z) := ⟨Z3.out.1, Z3.out.2.ext Q4.ext⟩
  have P4 : Hid (p.l = X ∧ Bits w4 p) := ⟨P3.out.1, P3.out.2.ext Q4.ext⟩
  have E4 : Hid (Ext w w4) := E3'.out.trans Q4.ext
  clear k4 HB Q4 Z3 P3 E3' Y3
  go_wp2_with fail
  have k5 := HD.out p z w4 P4.out.1 Z4.out.1 P4.out.2 Z4.out.2
  rw [HV.out, HZV.out] at k5
  refine k5.mono ?_
  rintro e w5 ⟨rfl, Q5⟩
  have E5 : Hid (Ext w w5) := E4.out.trans Q5.ext
  clear k5 HD Q5 Z4 P4 E4
  go_wp2
  go_ret
  exact ⟨rfl, E5.out⟩

theorem boseTwo_walk (x : Wd) (k : Int) (hk : (Lit.int .u8 k).wf = true) (j : Int) (hj : (Lit.int .u8 j).wf = true) (w : World) (hx : Bits w x) : Calls Try.prog 5 #[x.v, .int .u8 k, .int .u8 j] w fun e w' => e = .returned (.bool true) ∧ Ext w w' := by
  by_cases h : x.l.length = 7
  · obtain ⟨k0, k1⟩ := u8_of hk
    obtain ⟨j0, j1⟩ := u8_of hj
    obtain ⟨k, rfl⟩ := Int.eq_ofNat_of_zero_le k0
    obtain ⟨j, rfl⟩ := Int.eq_ofNat_of_zero_le j0
    exact boseTwo_good x k j (by omega) (by omega) h w hx
  · exact boseTwo_bad x k j h w

set_option maxRecDepth 100000 in
theorem boseTwo_lifted (os : Os) (started : os.Started) (H : Type) (enc : TypeId × Value → H) :
    ReturnsInHanded {} Try.checked os 5 .any (Rows.boseTwoSpec.pre6 enc Try.prog Try.f5 Rows.boseTwoRow.domain false) (Rows.boseTwoSpec.post enc Try.prog Try.f5 false true false false) := by
  refine returnsInHanded_of_change (C := Try.checked) own started (by kernel_rfl) Try.func5
    (ChangeSpec.witness6 (enc := enc) (C := Try.checked) false ⟨#[], #[.slice none 0 0, .int .u8 0, .int .u8 0], []⟩ 8 (by kernel_rfl) (by kernel_rfl) (by kernel_rfl) (by kernel_rfl)) ?_
  intro W base args ds gs before hval0 hW _ _
  have hval : ∀ (j : Nat) t v, Try.f5.params[j]? = some t → args[j]? = some v → Value.okWide Try.prog W .any base t v := hval0
  have hW' := hW
  obtain ⟨p, q, hA0, hV, rfl, hfz, hnd⟩ := hW
  have hA : DataW.TrodAll enc Try.prog W 0 (fun _ => true) true Try.f5.params.toList args.toList ds p := hA0
  rw [Try.params5] at hA hval
  obtain ⟨v0, vs0, d0, ds0, p0, q0, hargs, rfl, rfl, h0, r0⟩ := trodAll_cons hA
  obtain ⟨v1, vs1, d1, ds1, p1, q1, rfl, rfl, rfl, h1, r1⟩ := trodAll_cons r0
  obtain ⟨v2, vs2, d2, ds2, p2, q2, rfl, rfl, rfl, h2, r2⟩ := trodAll_cons r1
  obtain ⟨rfl, rfl, rfl⟩ := trodAll_nil r2
  obtain rfl : args = #[v0, v1, v2] := by cases args; simp_all
  obtain ⟨rfl, rfl⟩ := trodVars_none hV
  have lt0 : ∀ x ∈ p0, x.block < W.heap.size := by obtain ⟨m, hm⟩ := h0; exact DataW.trod_lt m _ _ _ hm
  obtain ⟨x0, rfl, w0⟩ := open_word (hval 0 22 v0 rfl rfl) h0
  have lt1 : ∀ x ∈ p1, x.block < W.heap.size := by obtain ⟨m, hm⟩ := h1; exact DataW.trod_lt m _ _ _ hm
  obtain ⟨x1, rfl, -, -, wf1⟩ := open_int Try.underlying5 (hval 1 5 v1 rfl rfl) h1
  have lt2 : ∀ x ∈ p2, x.block < W.heap.size := by obtain ⟨m, hm⟩ := h2; exact DataW.trod_lt m _ _ _ hm
  obtain ⟨x2, rfl, -, -, wf2⟩ := open_int Try.underlying5 (hval 2 5 v2 rfl rfl) h2
  clear hA0 hval0
  refine (boseTwo_walk x0 x1 wf1 x2 wf2 W w0).mono fun e W' ⟨he, bel⟩ => ?_
  subst he
  exact ⟨_, rfl, _, _, _, [], _, [], hW', trodAll_mk1 (shut_bool Try.underlying4 _), (trodAll_cons_mk (Below.trod laidOut (by kernel_rfl) (of_decide_eq_true (by kernel_rfl)) h0 bel lt0) (trodAll_cons_mk (Below.trod laidOut (by kernel_rfl) (of_decide_eq_true (by kernel_rfl)) h1 bel lt1) (trodAll_cons_mk (Below.trod laidOut (by kernel_rfl) (of_decide_eq_true (by kernel_rfl)) h2 bel lt2) trodAll_mk0))), rfl, bel.frame _, fun h => by cases h⟩

theorem boseTwo_holds : Rows.BoseTwoSaid :=
  OpenClaim.holds_of_wide 5 Try.f5 rfl rfl rfl rfl rfl rfl rfl ⟨rfl, rfl, rfl, rfl, rfl⟩ rfl rfl rfl rfl rfl (by kernel_rfl) Try.func5 (by kernel_rfl)
    (of_decide_eq_true (by kernel_rfl)) (by unfold Func.isWrapper; rw [if_neg (of_decide_eq_false (by kernel_rfl))]; exact ⟨rfl, rfl⟩)
    (fun os started H enc _ => boseTwo_lifted os started H enc)

#print axioms boseTwo_holds

end Go.Proofs.Ytfngcoijbnhheaa
