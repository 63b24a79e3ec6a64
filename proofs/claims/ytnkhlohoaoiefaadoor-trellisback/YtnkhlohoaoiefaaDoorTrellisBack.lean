/-
  For any data, of whose bits two are turned at most: they are told: TrellisBack returns true for every list of bits and every two bytes, and changes nothing; on its way lies the table of all states, tied to the program's text.
-/
import Derived.Test.YtnkhlohoaoiefaaDoorGe
import Derived.Test.YtnkhlohoaoiefaaDoorDf
import Derived.Test.YtnkhlohoaoiefaaDoorLw
import Derived.Test.YtnkhlohoaoiefaaDoorLd
import Derived.Test.YtnkhlohoaoiefaaDoorOpen
import Derived.Test.YtnkhlohoaoiefaaDoorEq
import Derived.Test.YtnkhlohoaoiefaaDoorMix
import Derived.Test.YtnkhlohoaoiefaaDoorCards
import Derived.Test.YtnkhlohoaoiefaaDoorTie
import Derived.ProofKit
namespace Go.Proofs.YtnkhlohoaoiefaaDoor
open Go.ChangeShapes Go.WideShapes Go.ChangeAt Go.RowKit Go.Deep
set_option linter.unusedVariables false

theorem ct_no {f : Nat → Bool} : ∀ n, (∀ i, i < n → f i = false) → ct f n = 0
  | 0, _ => rfl
  | n + 1, h => by
    show ct f n + _ = 0
    rw [ct_no n (fun i hi => h i (by omega)), h n (by omega)]; rfl
theorem ct_one {f : Nat → Bool} (i : Nat) : ∀ n, (∀ k, k < n → f k = true → k = i) → ct f n ≤ 1
  | 0, _ => by show 0 ≤ 1; omega
  | n + 1, h => by
    show ct f n + _ ≤ 1
    cases hf : f n
    · have := ct_one i n (fun k hk => h k (by omega))
      simpa using this
    · have e := h n (by omega) hf
      rw [ct_no n (fun k hk => by
        cases hk' : f k
        · rfl
        · have := h k (by omega) hk'
          omega)]
      simp
theorem df_tn (l : List Bool) (i : Nat) : df l (tn l i) ≤ 1 := by
  unfold df
  refine ct_one i _ (fun k hk h => ?_)
  rcases Nat.decEq k i with e | e
  · exfalso
    rw [bne_iff_ne] at h
    apply h
    unfold tn
    rw [List.getD_eq_getElem?_getD, List.getD_eq_getElem?_getD, List.getElem?_set_ne (fun h' => e h'.symm)]
  · exact e
theorem df_two (l : List Bool) (i j : Nat) : df l (tn (tn l i) j) ≤ 2 := by
  have h1 := df_tri (x := l) (y := tn l i) (z := tn (tn l i) j) (tn_len l i).symm
  have h2 := df_tn l i
  have h3 := df_tn (tn l i) j
  omega

/-- Who is so near is told. -/
theorem gy_near {z d : List Bool} {n : Nat} (hz : z.length = 2 * n + 4) (hd : d.length = n) (h : df (tr d) z ≤ 2) : dg (gy z n) n = d ∧ nd z n (gy z n) = df (tr d) z := by
  obtain ⟨y, hy, rfl⟩ := dg_has n d hd
  have h1 := gy_min z n hy
  have h2 : nd z n y = df (tr (dg y n)) z := rfl
  have h3 : nd z n (gy z n) = df (tr (dg (gy z n) n)) z := rfl
  have h4 : nd z n (gy z n) ≤ nd z n y := by unfold Lx at h1; omega
  have e : dg (gy z n) n = dg y n := by
    refine tr_far (by rw [dg_length, dg_length]) ?_
    have t1 := df_tri (x := tr (dg (gy z n) n)) (y := z) (z := tr (dg y n)) (by rw [tr_len, dg_length, hz])
    rw [df_comm (x := z) (y := tr (dg y n)) (by rw [tr_len, dg_length, hz])] at t1
    omega
  exact ⟨e, by rw [h3, e]⟩

set_option maxRecDepth 100000 in
theorem back_bad (x : Wd) (k j : Int) (hl : 12 < x.l.length) (w : World) : Calls Tryd.prog 4 #[x.v, .int .u8 k, .int .u8 j] w fun e w' => e = .returned (.bool true) ∧ Ext w w' := by
  have c1 := put_bad x hl w
  have hz : (12 : Int) < x.l.length := by omega
  simp only [Wd.v] at *
  generalize x.l.length = n at *
  go_enter Tryd.func4, Tryd.ntmps4
  go_wp2_with fail
  refine c1.mono ?_
  rintro e w1 ⟨rfl, rfl⟩
  clear c1
  go_wp2
  go_ret
  exact ⟨rfl, Ext.refl _⟩

set_option maxHeartbeats 400000 in
set_option maxRecDepth 100000 in
theorem back_good (x : Wd) (k j : Nat) (hk : k < 256) (hj : j < 256) (hl : x.l.length ≤ 12) (w : World) (hx : Bits w x) (tb : TB w) : Calls Tryd.prog 4 #[x.v, .int .u8 k, .int .u8 j] w fun e w' => e = .returned (.bool true) ∧ Ext w w' := by
  have c1 := put_good x hl w hx
  obtain ⟨n, hn⟩ : ∃ n, x.l.length = n := ⟨_, rfl⟩
  obtain ⟨N, hN⟩ : ∃ N, 2 * n + 4 = N := ⟨_, rfl⟩
  have hT : (tr x.l).length = N := by rw [tr_len, hn, hN]
  have hm := rem_at k N
  have hm' := rem_at j N
  obtain ⟨a, hia⟩ : ∃ a, k % N = a := ⟨_, rfl⟩
  obtain ⟨b, hib⟩ : ∃ b, j % N = b := ⟨_, rfl⟩
  rw [hia] at hm
  rw [hib] at hm'
  have ha : a < N := by rw [← hia]; exact Nat.mod_lt _ (by omega)
  have hb : b < N := by rw [← hib]; exact Nat.mod_lt _ (by omega)
  clear hia hib
  have HT : Hid (∀ (z : Wd) W, z.l = tr x.l → Bits W z → Calls Tryd.prog 10 #[z.v, .slice (some ⟨W.heap.size, 0, none⟩) 2 2] (W.alloc (.cells #[.int .i64 (a : Nat), .int .i64 (b : Nat)] 3)) fun e w' => ∃ v, e = .returned v ∧ OwnB W w' v (tn (tn (tr x.l) a) b)) := fun z W h hb' => by
    have hz : z.l.length = N := by rw [h]; exact hT
    have := turned_two z (by omega) (by omega) a b (by omega) (by omega) W hb'
    rw [h] at this
    exact this
  have HF : Hid (∀ (z : Wd) W, z.l = tn (tn (tr x.l) a) b → Bits W z → Ext w W → Calls Tryd.prog 6 #[z.v] W fun e w' => ∃ y : Wd, e = .returned (.tuple #[y.v, .int .i64 (df (tr x.l) (tn (tn (tr x.l) a) b) : Nat), .int .i64 0]) ∧ y.l = x.l ∧ Bits w' y ∧ Ext W w') := fun z W h hb' hE => by
    have hz : z.l.length = 2 * n + 4 := by rw [h, tn_len, tn_len, hT, hN]
    have hf := gy_near hz hn (by rw [h]; exact df_two _ _ _)
    have := get_good z n hz (by omega) W hb' (tb.ext hE)
    rw [hf.1, hf.2, h] at this
    exact this
  have HB : Hid (∀ (y : Wd) W, y.l = x.l → Bits W y → Ext w W → Calls Tryd.prog 8 #[y.v, .slice x.a n x.c] W fun e w' => e = .returned (.bool true) ∧ Qt W w') := fun y W h hb' e => by
    have := bools_any y x W hb' (hx.ext e)
    rw [h, beq_self_eq_true] at this
    have hv : x.v = .slice x.a n x.c := by rw [Wd.v, hn]
    rw [← hv]
    exact this
  have HD : Hid (∀ (p q : Wd) (W : World), p.l = tr x.l → q.l = tn (tn (tr x.l) a) b → Bits W p → Bits W q → Calls Tryd.prog 11 #[p.v, q.v] W fun e w' => e = .returned (.int .i64 (df (tr x.l) (tn (tn (tr x.l) a) b) : Nat)) ∧ Qt W w') := fun p q W hp hq hbp hbq => by
    have := differ_any p q (by rw [hp, hq, tn_len, tn_len]) (by rw [hp, hT]; omega) W hbp hbq
    rw [hp, hq] at this
    exact this
  have HP : Hid (∀ p : Wd, p.l = tr x.l → ∃ a c, p.v = .slice a N c) := fun p hp => ⟨p.a, p.c, by rw [Wd.v, hp, hT]⟩
  have hz : ¬ (12 : Int) < (n : Int) := by omega
  have hN0 : ¬ (N : Int) = 0 := by omega
  have hN28 : N ≤ 28 := by omega
  have hNn : ¬ N = 0 := by omega
  have hNe : 2 * (n : Int) + 4 = (N : Int) := by omega
  clear hx
  have hv : x.v = .slice x.a n x.c := by rw [Wd.v, hn]
  rw [hv] at c1 ⊢
  clear hv hn
  generalize df (tr x.l) (tn (tn (tr x.l) a) b) = D at *
  generalize tn (tn (tr x.l) a) b = Z at *
  generalize tr x.l = X at *
  clear hl hT hN tb
  go_enter Tryd.func4, Tryd.ntmps4
  go_wp2_with fail
  refine c1.mono ?_
  rintro e w1 ⟨p, rfl, hp, hb', E1⟩
  obtain ⟨pa, pc', hpv⟩ := HP.out p hp
  have HV : Hid (p.v = .slice pa N pc') := hpv
  have P1 : Hid (p.l = X ∧ Bits w1 p) := ⟨hp, hb'⟩
  have E : Hid (Ext w w1) := E1
  rw [hpv]
  clear c1 hp hb' E1 HP hpv
  go_wp2_with fail
  clear hNe
  refine wp_region_mix (Ext w1) 14 (by rfl) (by kernel_rfl) ?_
  refine wpMix_take (v := .slice pa N pc') 0 (by rfl) (by kernel_rfl) ⟨by rfl, ?_⟩ ?_
  · rintro W hW
    go_simp
  refine wpMix_take (v := .int .u8 (k : Int)) 1 (by rfl) (by kernel_rfl) ⟨by rfl, ?_⟩ ?_
  · rintro W hW
    go_simp
  refine wpMix_take (v := .int .i64 (k : Int)) 2 (by rfl) (by kernel_rfl) ⟨by rfl, ?_⟩ ?_
  · rintro W hW
    have c : IntKind.i64.wrap (k : Int) = (k : Int) := by rw [IntKind.wrap_i64]; omega
    go_simp
  refine wpMix_take (v := .slice pa N pc') 3 (by rfl) (by kernel_rfl) ⟨by rfl, ?_⟩ ?_
  · rintro W hW
    go_simp
  refine wpMix_take (v := .int .i64 (N : Int)) 4 (by rfl) (by kernel_rfl) ⟨by rfl, ?_⟩ ?_
  · rintro W hW
    go_simp
  refine wpMix_take (v := .int .i64 (a : Int)) 5 (by rfl) (by kernel_rfl) ⟨by rfl, ?_⟩ ?_
  · rintro W hW
    go_simp
  refine wpMix_take (v := .int .u8 (j : Int)) 6 (by rfl) (by kernel_rfl) ⟨by rfl, ?_⟩ ?_
  · rintro W hW
    go_simp
  refine wpMix_take (v := .int .i64 (j : Int)) 7 (by rfl) (by kernel_rfl) ⟨by rfl, ?_⟩ ?_
  · rintro W hW
    have c : IntKind.i64.wrap (j : Int) = (j : Int) := by rw [IntKind.wrap_i64]; omega
    go_simp
  refine wpMix_take (v := .slice pa N pc') 8 (by rfl) (by kernel_rfl) ⟨by rfl, ?_⟩ ?_
  · rintro W hW
    go_simp
  refine wpMix_take (v := .int .i64 (N : Int)) 9 (by rfl) (by kernel_rfl) ⟨by rfl, ?_⟩ ?_
  · rintro W hW
    go_simp
  refine wpMix_take (v := .int .i64 (b : Int)) 10 (by rfl) (by kernel_rfl) ⟨by rfl, ?_⟩ ?_
  · rintro W hW
    go_simp
  have ED : Ext w1 w1.drew := ext_drew w1
  refine wpMix_only 11 (by kernel_rfl) ED ?_
  refine mOp_value (v := .slice (some ⟨w1.drew.heap.size, 0, none⟩) 2 2) (w' := w1.drew.alloc (.cells #[.int .i64 (a : Int), .int .i64 (b : Int)] 3)) (by rfl) (by rfl) ?_ ?_
  · go_simp
  have ED2 : Ext w1 (w1.drew.alloc (.cells #[.int .i64 (a : Int), .int .i64 (b : Int)] 3)) := ED.alloc _
  refine wpMix_only 12 (by kernel_rfl) ED2 ?_
  refine mOp_call (f := 10) (args := #[.slice pa N pc', .slice (some ⟨w1.drew.heap.size, 0, none⟩) 2 2]) (w' := w1.drew.alloc (.cells #[.int .i64 (a : Int), .int .i64 (b : Int)] 3)) (by rfl) (by rfl) ?_ ?_
  · go_simp
  have k2 := HT.out p w1.drew P1.out.1 (P1.out.2.ext ED)
  rw [HV.out] at k2
  refine k2.mono ?_
  rintro e w2 ⟨v, rfl, O2⟩
  have X2 : Ext w1 w2 := ED.trans O2.1
  refine ⟨_, rfl, ?_⟩
  obtain ⟨z, rfl, hz, hbz⟩ := O2.bits
  have Z2 : Hid (z.l = Z ∧ Bits w2 z) := ⟨hz, hbz⟩
  have P2 : Hid (p.l = X ∧ Bits w2 p) := ⟨P1.out.1, P1.out.2.ext X2⟩
  have E2 : Hid (Ext w w2) := E.out.trans X2
  obtain ⟨zv, hzv⟩ : ∃ v, z.v = v := ⟨_, rfl⟩
  have HZV : Hid (z.v = zv) := hzv
  rw [hzv]
  refine wpMix_take (v := zv) 13 (by rfl) (by kernel_rfl) ⟨by rfl, ?_⟩ ?_
  · rintro W hW
    go_simp
  refine wpMix_done (by kernel_rfl) X2 ?_
  clear k2 HT hz hbz O2 P1 E hzv X2 ED2 ED
  go_wp2_with fail
  have k3 := HF.out z w2 Z2.out.1 Z2.out.2 E2.out
  rw [HZV.out] at k3
  refine k3.mono ?_
  rintro e w3 ⟨y, rfl, hy, hby, E3⟩
  have Y3 : Hid (y.l = x.l ∧ Bits w3 y) := ⟨hy, hby⟩
  have Z3 : Hid (z.l = Z ∧ Bits w3 z) := ⟨Z2.out.1, Z2.out.2.ext E3⟩
  have P3 : Hid (p.l = X ∧ Bits w3 p) := ⟨P2.out.1, P2.out.2.ext E3⟩
  have E3' : Hid (Ext w w3) := E2.out.trans E3
  obtain ⟨yv, hyv⟩ : ∃ v, y.v = v := ⟨_, rfl⟩
  have HYV : Hid (y.v = yv) := hyv
  rw [hyv]
  clear k3 HF hy hby E3 Z2 P2 E2 hyv
  go_wp2_with fail
  have k5 := HD.out p z w3 P3.out.1 Z3.out.1 P3.out.2 Z3.out.2
  rw [HV.out, HZV.out] at k5
  refine k5.mono ?_
  rintro e w4 ⟨rfl, Q4⟩
  have Y4 : Hid (y.l = x.l ∧ Bits w4 y) := ⟨Y3.out.1, Y3.out.2.ext Q4.ext⟩
  have E4 : Hid (Ext w w4) := E3'.out.trans Q4.ext
  clear k5 HD Q4 Z3 P3 E3' Y3
  go_wp2_with fail
  have k4 := HB.out y w4 Y4.out.1 Y4.out.2 E4.out
  rw [HYV.out] at k4
  refine k4.mono ?_
  rintro e w5 ⟨rfl, Q5⟩
  have E5 : Hid (Ext w w5) := E4.out.trans Q5.ext
  clear k4 HB Q5 E4 Y4
  go_wp2
  go_ret
  exact ⟨rfl, E5.out⟩

theorem back_walk (x : Wd) (k : Int) (hk : (Lit.int .u8 k).wf = true) (j : Int) (hj : (Lit.int .u8 j).wf = true) (w : World) (hx : Bits w x) (tb : TB w) : Calls Tryd.prog 4 #[x.v, .int .u8 k, .int .u8 j] w fun e w' => e = .returned (.bool true) ∧ Ext w w' := by
  by_cases h : x.l.length ≤ 12
  · obtain ⟨k0, k1⟩ := u8_of hk
    obtain ⟨j0, j1⟩ := u8_of hj
    obtain ⟨k, rfl⟩ := Int.eq_ofNat_of_zero_le k0
    obtain ⟨j, rfl⟩ := Int.eq_ofNat_of_zero_le j0
    exact back_good x k j (by omega) (by omega) h w hx tb
  · exact back_bad x k j (by omega) w

set_option maxRecDepth 100000 in
theorem trellisBack_lifted (os : Os) (started : os.Started) (H : Type) (enc : TypeId × Value → H) :
    ReturnsInHanded {} Tryd.checked os 4 .any (fun w args => (Rows.trellisBackSpec.pre enc Tryd.prog Tryd.f4 [] false w args ∧ laidMetH Tryd.prog Rows.trellisBackRow.laid w) ∧ sizedMet enc Tryd.prog Tryd.f4 (OpenSpec.ofChange Rows.trellisBackSpec) false w args)
      (Rows.trellisBackSpec.post enc Tryd.prog Tryd.f4 false true false false) := by
  refine returnsInHanded_of_change_and (C := Tryd.checked) (X := fun w _ => laidMetH Tryd.prog Rows.trellisBackRow.laid w) (fun _ _ _ hh h => h.of_heap hh) own started (by kernel_rfl) Tryd.func4
    (ChangeSpec.witness_shaped (enc := enc) (C := Tryd.checked) (os := os) (X := fun w _ => laidMetH Tryd.prog Rows.trellisBackRow.laid w) false (World.doorLaid Tryd.prog 400 os) #[.slice none 0 0, .int .u8 0, .int .u8 0] 8 rfl (World.shaped_of_RefB (by kernel_rfl) (by kernel_rfl)) (by kernel_rfl) (by kernel_rfl) (by kernel_rfl) (door_met os _)) ?_
  intro W base args ds gs before hval0 hW _ _ hL _
  have hval : ∀ (j : Nat) t v, Tryd.f4.params[j]? = some t → args[j]? = some v → Value.okWide Tryd.prog W .any base t v := hval0
  have hW' := hW
  obtain ⟨p, q, hA0, hV, rfl, hfz, hnd⟩ := hW
  have hA : DataW.TrodAll enc Tryd.prog W 0 (fun _ => true) true Tryd.f4.params.toList args.toList ds p := hA0
  rw [Tryd.params4] at hA hval
  obtain ⟨v0, vs0, d0, ds0, p0, q0, hargs, rfl, rfl, h0, r0⟩ := trodAll_cons hA
  obtain ⟨v1, vs1, d1, ds1, p1, q1, rfl, rfl, rfl, h1, r1⟩ := trodAll_cons r0
  obtain ⟨v2, vs2, d2, ds2, p2, q2, rfl, rfl, rfl, h2, r2⟩ := trodAll_cons r1
  obtain ⟨rfl, rfl, rfl⟩ := trodAll_nil r2
  obtain rfl : args = #[v0, v1, v2] := by cases args; simp_all
  obtain ⟨rfl, rfl⟩ := trodVars_none hV
  have lt0 : ∀ x ∈ p0, x.block < W.heap.size := by obtain ⟨m, hm⟩ := h0; exact DataW.trod_lt m _ _ _ hm
  obtain ⟨x0, rfl, w0⟩ := open_word (hval 0 22 v0 rfl rfl) h0
  have lt1 : ∀ x ∈ p1, x.block < W.heap.size := by obtain ⟨m, hm⟩ := h1; exact DataW.trod_lt m _ _ _ hm
  obtain ⟨x1, rfl, -, -, wf1⟩ := open_int Tryd.underlying5 (hval 1 5 v1 rfl rfl) h1
  have lt2 : ∀ x ∈ p2, x.block < W.heap.size := by obtain ⟨m, hm⟩ := h2; exact DataW.trod_lt m _ _ _ hm
  obtain ⟨x2, rfl, -, -, wf2⟩ := open_int Tryd.underlying5 (hval 2 5 v2 rfl rfl) h2
  clear hA0 hval0
  refine (back_walk x0 x1 wf1 x2 wf2 W w0 (of_laid hL)).mono fun e W' ⟨he, bel⟩ => ?_
  subst he
  exact ⟨_, rfl, _, _, _, [], _, [], hW', trodAll_mk1 (shut_bool Tryd.underlying4 _), (trodAll_cons_mk (Below.trod laidOut (by kernel_rfl) (of_decide_eq_true (by kernel_rfl)) h0 bel lt0) (trodAll_cons_mk (Below.trod laidOut (by kernel_rfl) (of_decide_eq_true (by kernel_rfl)) h1 bel lt1) (trodAll_cons_mk (Below.trod laidOut (by kernel_rfl) (of_decide_eq_true (by kernel_rfl)) h2 bel lt2) trodAll_mk0))), rfl, bel.frame _, fun h => by cases h⟩

theorem trellisBack_holds : Rows.TrellisBackSaid :=
  OpenClaim.holds_of_wide 4 Tryd.f4 rfl rfl rfl rfl rfl rfl rfl ⟨rfl, rfl, rfl, rfl, rfl⟩ rfl rfl rfl rfl rfl (by kernel_rfl) Tryd.func4 (by kernel_rfl)
    (of_decide_eq_true (by kernel_rfl)) (by unfold Func.isWrapper; first | (rw [if_pos (by decide +kernel)]; kernel_rfl) | (rw [if_neg (by decide +kernel)]; exact ⟨rfl, rfl⟩))
    (fun os started H enc _ => trellisBack_lifted os started H enc)

/-- The tied card. -/
theorem trellisBack_card : Rows.TrellisBackCardSaid :=
  Claim7.holds_tied_plain_at .later [] [.data] true (true, "4dce6ce86a23a33e5b90866702ab56aa573dd357c2acd13007792282d0b4d084") false
    trellisBack_holds (fun _ h => by cases h) (by kernel_rfl) (fun _ h => by cases h) trellisBack_row_tie rfl ⟨rfl, rfl⟩ (by kernel_rfl) rfl
    (fun f fn hf hfn => by
      obtain rfl : f = 4 := Option.some.inj ((show Tryd.prog.funcNamed "quipu/quipukeep.TrellisBack" = some 4 by kernel_rfl).symm.trans hf) |>.symm
      obtain rfl : fn = Tryd.f4 := (Option.some.inj (Tryd.func4.symm.trans hfn)).symm
      exact ⟨by kernel_rfl, fun j t ht => by
        rw [Tryd.params4] at ht
        have hm : t ∈ [22, 5, 5] := by simpa using Array.mem_of_getElem? ht
        have hall : ([22, 5, 5].all fun u => !Tryd.prog.wantsStandIn u) = true := by kernel_rfl
        exact (show Tryd.prog.wantsStandIn t = false by simpa using List.all_eq_true.1 hall t hm)⟩)
    (by kernel_rfl)

#print axioms trellisBack_card

end Go.Proofs.YtnkhlohoaoiefaaDoor
