/-
  For any bits and any data: none are nearer than what is told: TrellisBest returns true for every two lists of bits, and changes nothing; on its way lies the table of all states, tied to the program's text.
-/
import Derived.Test.YtnkhlohoaoiefaaDoorGe
import Derived.Test.YtnkhlohoaoiefaaDoorDf
import Derived.Test.YtnkhlohoaoiefaaDoorLd
import Derived.Test.YtnkhlohoaoiefaaDoorOpen
import Derived.Test.YtnkhlohoaoiefaaDoorCards
import Derived.Test.YtnkhlohoaoiefaaDoorTie
import Derived.ProofKit
namespace Go.Proofs.YtnkhlohoaoiefaaDoor
open Go.ChangeShapes Go.WideShapes Go.ChangeAt Go.RowKit Go.Deep
set_option linter.unusedVariables false

/-- None is nearer. -/
theorem best_min {z d : List Bool} {n : Nat} (hd : d.length = n) : nd z n (gy z n) ≤ df (tr d) z := by
  obtain ⟨y, hy, rfl⟩ := dg_has n d hd
  have h1 := gy_min z n hy
  have h2 : nd z n y = df (tr (dg y n)) z := rfl
  unfold Lx at h1
  omega

set_option maxRecDepth 100000 in
theorem best_bad (x y : Wd) (hm : x.l.length ≤ 9223372036854775807) (h0 : ge x.l.length ≠ 0) (w : World) : Calls Tryd.prog 5 #[x.v, y.v] w fun e w' => e = .returned (.bool true) ∧ Ext w w' := by
  have c1 := get_bad x hm h0 w
  simp only [Wd.v] at *
  generalize x.l.length = n at *
  generalize y.l.length = n2 at *
  have yz : (n : Int).tmod 2 = ((n % 2 : Nat) : Int) := by rw [show (2 : Int) = ((2 : Nat) : Int) from rfl, ← Int.ofNat_tmod]
  have yq : (n : Int).tdiv 2 = ((n / 2 : Nat) : Int) := by rw [show (2 : Int) = ((2 : Nat) : Int) from rfl, ← Int.ofNat_tdiv]
  by_cases h1 : n % 2 = 1
  · have e : ge n = 3 := if_pos (.inl h1)
    rw [h1] at yz
    rw [e] at c1
    clear e h0 yq
    go_enter Tryd.func5, Tryd.ntmps5
    go_wp2_with fail
    refine c1.mono ?_
    rintro e w1 ⟨rfl, rfl⟩
    clear c1
    go_wp2
    go_ret
    exact ⟨rfl, Ext.refl _⟩
  · have h0' : n % 2 = 0 := by omega
    rw [h0'] at yz
    by_cases h2 : n < 4
    · have e : ge n = 3 := if_pos (.inr h2)
      have hz : (n : Int) < 4 := by omega
      rw [e] at c1
      clear e h0 yq
      go_enter Tryd.func5, Tryd.ntmps5
      go_wp2_with fail
      refine c1.mono ?_
      rintro e w1 ⟨rfl, rfl⟩
      clear c1
      go_wp2
      go_ret
      exact ⟨rfl, Ext.refl _⟩
    · have hz : ¬ (n : Int) < 4 := by omega
      have h3 : 12 < n / 2 - 2 := by
        rcases Nat.lt_or_ge 12 (n / 2 - 2) with h | h
        · exact h
        · exfalso
          apply h0
          unfold ge
          rw [if_neg (by omega), if_neg (by omega)]
      have e : ge n = 1 := by
        unfold ge
        rw [if_neg (by omega), if_pos h3]
      have hb : n / 2 ≤ n := Nat.div_le_self _ _
      rw [e] at c1
      clear e h0
      generalize n / 2 = m at *
      have hz3 : (12 : Int) < (m : Int) - 2 := by omega
      have e1 : wrap64 (m : Int) = m := by simp only [wrap64]; omega
      have e2 : wrap64 ((m : Int) - 2) = (m : Int) - 2 := by simp only [wrap64]; omega
      go_enter Tryd.func5, Tryd.ntmps5
      go_wp2_with fail
      refine c1.mono ?_
      rintro e w1 ⟨rfl, rfl⟩
      clear c1
      go_wp2
      go_ret
      exact ⟨rfl, Ext.refl _⟩

set_option maxHeartbeats 400000 in
set_option maxRecDepth 100000 in
theorem best_good (x y : Wd) (n : Nat) (hl : x.l.length = 2 * n + 4) (hn : n ≤ 12) (w : World) (hx : Bits w x) (hy : Bits w y) (tb : TB w) : Calls Tryd.prog 5 #[x.v, y.v] w fun e w' => e = .returned (.bool true) ∧ Ext w w' := by
  have c1 := get_good x n hl hn w hx tb
  have c2 : Hid (∀ (z : Wd) (W : World), z.l = dg (gy x.l n) n → Bits W z → Calls Tryd.prog 9 #[z.v] W fun e w' => ∃ m : Wd, e = .returned (.tuple #[m.v, .int .i64 0]) ∧ m.l = tr (dg (gy x.l n) n) ∧ Bits w' m ∧ Ext W w') := fun z W hz hb => by
    have := put_good z (by rw [hz, dg_length]; exact hn) W hb
    rw [hz] at this
    exact this
  obtain ⟨N, hN⟩ : ∃ N, 2 * n + 4 = N := ⟨_, rfl⟩
  have c3 : Hid (∀ (m : Wd) (W : World), m.l = tr (dg (gy x.l n) n) → Bits W m → Ext w W → Calls Tryd.prog 11 #[m.v, .slice x.a N x.c] W fun e w' => e = .returned (.int .i64 (nd x.l n (gy x.l n) : Nat)) ∧ Ext W w') := fun m W hm hb E => by
    have hml : m.l.length = 2 * n + 4 := by rw [hm, tr_len, dg_length]
    have := differ_any m x (by rw [hl, hml]) (by omega) W hb (hx.ext E)
    rw [hm, Wd.v, Wd.v, hl, hml, hN] at this
    rw [Wd.v, hml, hN]
    exact this.mono (by rintro e w' ⟨rfl, q⟩; exact ⟨rfl, q.ext⟩)
  have HP : Hid (∀ m : Wd, m.l = tr (dg (gy x.l n) n) → m.v = .slice m.a N m.c) := fun m hm => by rw [Wd.v, hm, tr_len, dg_length, hN]
  have yz : (N : Int).tmod 2 = 0 := by
    rw [← hN, show (2 : Int) = ((2 : Nat) : Int) from rfl, ← Int.ofNat_tmod]
    omega
  have yq : (N : Int).tdiv 2 = (n : Int) + 2 := by
    rw [← hN, show (2 : Int) = ((2 : Nat) : Int) from rfl, ← Int.ofNat_tdiv]
    omega
  have hz : ¬ (N : Int) < 4 := by omega
  have hz3 : ¬ (12 : Int) < (n : Int) := by omega
  have HY : Hid (Bits w y) := hy
  obtain ⟨q, hq⟩ : ∃ q, y.l.length = q := ⟨_, rfl⟩
  obtain ⟨dd, hdd⟩ : ∃ dd, nd x.l n (gy x.l n) = dd := ⟨_, rfl⟩
  have hdd28 : dd ≤ 28 := by
    rw [← hdd]
    have := df_le (tr (dg (gy x.l n) n)) x.l
    rw [tr_len, dg_length] at this
    have h2 : nd x.l n (gy x.l n) = df (tr (dg (gy x.l n) n)) x.l := rfl
    omega
  have hvx : x.v = .slice x.a N x.c := by rw [Wd.v, hl, hN]
  have hvy : y.v = .slice y.a q y.c := by rw [Wd.v, hq]
  have hdm : q = n → dd ≤ df (tr y.l) x.l := fun h => by rw [← hdd]; exact best_min (by rw [hq, h])
  rw [hvx] at c1
  rw [hdd] at c1 c3
  rw [hvx, hvy]
  by_cases hbig : 12 < q
  · have d1 : Hid (∀ W, Calls Tryd.prog 9 #[.slice y.a q y.c] W fun e w' => e = .returned (.tuple #[.slice none 0 0, .int .i64 1]) ∧ w' = W) := fun W => by
      have := put_bad y (by omega) W
      rw [hvy] at this
      exact this
    generalize dg (gy x.l n) n = R at *
    clear hx tb hy hl hq hvx hvy hdm hN
    go_enter Tryd.func5, Tryd.ntmps5
    go_wp2_with fail
    refine c1.mono ?_
    rintro e w1 ⟨z, rfl, hz', hb, E1⟩
    have E : Hid (Ext w w1) := E1
    have Z1 : Hid (z.l = R ∧ Bits w1 z) := ⟨hz', hb⟩
    obtain ⟨zv, hzv⟩ : ∃ v, z.v = v := ⟨_, rfl⟩
    rw [hzv]
    have HZV : Hid (z.v = zv) := hzv
    clear c1 hz' hb E1 hzv
    go_wp2_with fail
    have k2 := c2.out z w1 Z1.out.1 Z1.out.2
    rw [HZV.out] at k2
    refine k2.mono ?_
    rintro e w2 ⟨m, rfl, hm, hbm, E2⟩
    have Em : Hid (Ext w w2) := E.out.trans E2
    have hmv := HP.out m hm
    rw [hmv]
    have k3 := c3.out m w2 hm hbm Em.out
    rw [hmv] at k3
    have K3 : Hid (Calls Tryd.prog 11 #[.slice m.a N m.c, .slice x.a N x.c] w2 fun e w' => e = .returned (.int .i64 (dd : Nat)) ∧ Ext w2 w') := k3
    clear k2 k3 c2 c3 E E2 hm hbm hmv HP Z1 HZV
    go_wp2_with fail
    refine K3.out.mono ?_
    rintro e w3 ⟨rfl, E3⟩
    have E3' : Hid (Ext w w3) := Em.out.trans E3
    clear K3 Em E3
    go_wp2_with fail
    refine (d1.out w3).mono ?_
    rintro e w4 ⟨rfl, rfl⟩
    clear d1
    go_wp2
    go_ret
    exact ⟨rfl, E3'.out⟩
  · have d1 : Hid (∀ W, Ext w W → Calls Tryd.prog 9 #[.slice y.a q y.c] W fun e w' => ∃ t : Wd, e = .returned (.tuple #[t.v, .int .i64 0]) ∧ t.l = tr y.l ∧ Bits w' t ∧ Ext W w') := fun W E => by
      have := put_good y (by omega) W (hy.ext E)
      rw [hvy] at this
      exact this
    obtain ⟨Q, hQ⟩ : ∃ Q, 2 * q + 4 = Q := ⟨_, rfl⟩
    have HQ : Hid (∀ t : Wd, t.l = tr y.l → t.v = .slice t.a Q t.c) := fun t ht => by rw [Wd.v, ht, tr_len, hq, hQ]
    by_cases hQN : Q = N
    · have d2 : Hid (∀ (t : Wd) (W : World), t.l = tr y.l → Bits W t → Ext w W → Calls Tryd.prog 11 #[.slice t.a N t.c, .slice x.a N x.c] W fun e w' => e = .returned (.int .i64 (df (tr y.l) x.l : Nat)) ∧ Ext W w') := fun t W ht hb E => by
        have htl : t.l.length = N := by rw [ht, tr_len, hq, hQ, hQN]
        have := differ_any t x (by rw [hl, htl, hN]) (by omega) W hb (hx.ext E)
        rw [ht, hvx, Wd.v, htl] at this
        exact this.mono (by rintro e w' ⟨rfl, q⟩; exact ⟨rfl, q.ext⟩)
      have hge : dd ≤ df (tr y.l) x.l := hdm (by omega)
      have hkk : df (tr y.l) x.l ≤ 28 := by
        have := df_le (tr y.l) x.l
        rw [tr_len, hq] at this
        omega
      subst hQN
      generalize df (tr y.l) x.l = kk at *
      generalize tr y.l = T2 at *
      generalize dg (gy x.l n) n = R at *
      have hgez : (dd : Int) ≤ (kk : Int) := by omega
      clear hx tb hy hl hq hvx hvy hdm hQ hN
      go_enter Tryd.func5, Tryd.ntmps5
      go_wp2_with fail
      refine c1.mono ?_
      rintro e w1 ⟨z, rfl, hz', hb, E1⟩
      have E : Hid (Ext w w1) := E1
      have Z1 : Hid (z.l = R ∧ Bits w1 z) := ⟨hz', hb⟩
      obtain ⟨zv, hzv⟩ : ∃ v, z.v = v := ⟨_, rfl⟩
      rw [hzv]
      have HZV : Hid (z.v = zv) := hzv
      clear c1 hz' hb E1 hzv
      go_wp2_with fail
      have k2 := c2.out z w1 Z1.out.1 Z1.out.2
      rw [HZV.out] at k2
      refine k2.mono ?_
      rintro e w2 ⟨m, rfl, hm, hbm, E2⟩
      have Em : Hid (Ext w w2) := E.out.trans E2
      have hmv := HP.out m hm
      rw [hmv]
      have k3 := c3.out m w2 hm hbm Em.out
      rw [hmv] at k3
      have K3 : Hid (Calls Tryd.prog 11 #[.slice m.a Q m.c, .slice x.a Q x.c] w2 fun e w' => e = .returned (.int .i64 (dd : Nat)) ∧ Ext w2 w') := k3
      clear k2 k3 c2 c3 E E2 hm hbm hmv HP Z1 HZV
      go_wp2_with fail
      refine K3.out.mono ?_
      rintro e w3 ⟨rfl, E3⟩
      have E3' : Hid (Ext w w3) := Em.out.trans E3
      clear K3 Em E3
      go_wp2_with fail
      have k4 := d1.out w3 E3'.out
      refine k4.mono ?_
      rintro e w4 ⟨t, rfl, ht, hbt, E4⟩
      have htv := HQ.out t ht
      rw [htv]
      have E4' : Hid (Ext w w4) := E3'.out.trans E4
      have k5 := d2.out t w4 ht hbt E4'.out
      clear k4 d1 d2 HQ ht hbt E4 htv E3'
      go_wp2_with fail
      refine k5.mono ?_
      rintro e w5 ⟨rfl, E5⟩
      have E5' : Hid (Ext w w5) := E4'.out.trans E5
      clear k5 E5 E4'
      go_wp2
      go_ret
      exact ⟨rfl, E5'.out⟩
    · have hQz : ¬ (Q : Int) = (N : Int) := by omega
      generalize tr y.l = T2 at *
      generalize dg (gy x.l n) n = R at *
      clear hx tb hy hl hq hvx hvy hdm hQ hN
      go_enter Tryd.func5, Tryd.ntmps5
      go_wp2_with fail
      refine c1.mono ?_
      rintro e w1 ⟨z, rfl, hz', hb, E1⟩
      have E : Hid (Ext w w1) := E1
      have Z1 : Hid (z.l = R ∧ Bits w1 z) := ⟨hz', hb⟩
      obtain ⟨zv, hzv⟩ : ∃ v, z.v = v := ⟨_, rfl⟩
      rw [hzv]
      have HZV : Hid (z.v = zv) := hzv
      clear c1 hz' hb E1 hzv
      go_wp2_with fail
      have k2 := c2.out z w1 Z1.out.1 Z1.out.2
      rw [HZV.out] at k2
      refine k2.mono ?_
      rintro e w2 ⟨m, rfl, hm, hbm, E2⟩
      have Em : Hid (Ext w w2) := E.out.trans E2
      have hmv := HP.out m hm
      rw [hmv]
      have k3 := c3.out m w2 hm hbm Em.out
      rw [hmv] at k3
      have K3 : Hid (Calls Tryd.prog 11 #[.slice m.a N m.c, .slice x.a N x.c] w2 fun e w' => e = .returned (.int .i64 (dd : Nat)) ∧ Ext w2 w') := k3
      clear k2 k3 c2 c3 E E2 hm hbm hmv HP Z1 HZV
      go_wp2_with fail
      refine K3.out.mono ?_
      rintro e w3 ⟨rfl, E3⟩
      have E3' : Hid (Ext w w3) := Em.out.trans E3
      clear K3 Em E3
      go_wp2_with fail
      have k4 := d1.out w3 E3'.out
      refine k4.mono ?_
      rintro e w4 ⟨t, rfl, ht, hbt, E4⟩
      have htv := HQ.out t ht
      rw [htv]
      have E4' : Hid (Ext w w4) := E3'.out.trans E4
      clear k4 d1 HQ ht hbt E4 htv E3'
      go_wp2
      go_ret
      exact ⟨rfl, E4'.out⟩

theorem best_walk (x y : Wd) (w : World) (hx : Bits w x) (hy : Bits w y) (tb : TB w) : Calls Tryd.prog 5 #[x.v, y.v] w fun e w' => e = .returned (.bool true) ∧ Ext w w' := by
  have hm : x.l.length ≤ 9223372036854775807 := Nat.le_trans hx.1 hx.2.1
  by_cases h : ge x.l.length = 0
  · have h2 : x.l.length = 2 * (x.l.length / 2 - 2) + 4 ∧ x.l.length / 2 - 2 ≤ 12 := by
      unfold ge at h
      split at h
      · cases h
      · split at h
        · cases h
        · omega
    exact best_good x y _ h2.1 h2.2 w hx hy tb
  · exact best_bad x y hm h w

set_option maxRecDepth 100000 in
theorem trellisBest_lifted (os : Os) (started : os.Started) (H : Type) (enc : TypeId × Value → H) :
    ReturnsInHanded {} Tryd.checked os 5 .any (fun w args => (Rows.trellisBestSpec.pre enc Tryd.prog Tryd.f5 [] false w args ∧ laidMetH Tryd.prog Rows.trellisBestRow.laid w) ∧ sizedMet enc Tryd.prog Tryd.f5 (OpenSpec.ofChange Rows.trellisBestSpec) false w args)
      (Rows.trellisBestSpec.post enc Tryd.prog Tryd.f5 false true false false) := by
  refine returnsInHanded_of_change_and (C := Tryd.checked) (X := fun w _ => laidMetH Tryd.prog Rows.trellisBestRow.laid w) (fun _ _ _ hh h => h.of_heap hh) own started (by kernel_rfl) Tryd.func5
    (ChangeSpec.witness_shaped (enc := enc) (C := Tryd.checked) (os := os) (X := fun w _ => laidMetH Tryd.prog Rows.trellisBestRow.laid w) false (World.doorLaid Tryd.prog 400 os) #[.slice none 0 0, .slice none 0 0] 8 rfl (World.shaped_of_RefB (by kernel_rfl) (by kernel_rfl)) (by kernel_rfl) (by kernel_rfl) (by kernel_rfl) (door_met os _)) ?_
  intro W base args ds gs before hval0 hW _ _ hL _
  have hval : ∀ (j : Nat) t v, Tryd.f5.params[j]? = some t → args[j]? = some v → Value.okWide Tryd.prog W .any base t v := hval0
  have hW' := hW
  obtain ⟨p, q, hA0, hV, rfl, hfz, hnd⟩ := hW
  have hA : DataW.TrodAll enc Tryd.prog W 0 (fun _ => true) true Tryd.f5.params.toList args.toList ds p := hA0
  rw [Tryd.params5] at hA hval
  obtain ⟨v0, vs0, d0, ds0, p0, q0, hargs, rfl, rfl, h0, r0⟩ := trodAll_cons hA
  obtain ⟨v1, vs1, d1, ds1, p1, q1, rfl, rfl, rfl, h1, r1⟩ := trodAll_cons r0
  obtain ⟨rfl, rfl, rfl⟩ := trodAll_nil r1
  obtain rfl : args = #[v0, v1] := by cases args; simp_all
  obtain ⟨rfl, rfl⟩ := trodVars_none hV
  have lt0 : ∀ x ∈ p0, x.block < W.heap.size := by obtain ⟨m, hm⟩ := h0; exact DataW.trod_lt m _ _ _ hm
  obtain ⟨x0, rfl, w0⟩ := open_word (hval 0 22 v0 rfl rfl) h0
  have lt1 : ∀ x ∈ p1, x.block < W.heap.size := by obtain ⟨m, hm⟩ := h1; exact DataW.trod_lt m _ _ _ hm
  obtain ⟨x1, rfl, w1⟩ := open_word (hval 1 22 v1 rfl rfl) h1
  clear hA0 hval0
  refine (best_walk x0 x1 W w0 w1 (of_laid hL)).mono fun e W' ⟨he, bel⟩ => ?_
  subst he
  exact ⟨_, rfl, _, _, _, [], _, [], hW', trodAll_mk1 (shut_bool Tryd.underlying4 _), (trodAll_cons_mk (Below.trod laidOut (by kernel_rfl) (of_decide_eq_true (by kernel_rfl)) h0 bel lt0) (trodAll_cons_mk (Below.trod laidOut (by kernel_rfl) (of_decide_eq_true (by kernel_rfl)) h1 bel lt1) trodAll_mk0)), rfl, bel.frame _, fun h => by cases h⟩

theorem trellisBest_holds : Rows.TrellisBestSaid :=
  OpenClaim.holds_of_wide 5 Tryd.f5 rfl rfl rfl rfl rfl rfl rfl ⟨rfl, rfl, rfl, rfl, rfl⟩ rfl rfl rfl rfl rfl (by kernel_rfl) Tryd.func5 (by kernel_rfl)
    (of_decide_eq_true (by kernel_rfl)) (by unfold Func.isWrapper; first | (rw [if_pos (by decide +kernel)]; kernel_rfl) | (rw [if_neg (by decide +kernel)]; exact ⟨rfl, rfl⟩))
    (fun os started H enc _ => trellisBest_lifted os started H enc)

/-- The tied card. -/
theorem trellisBest_card : Rows.TrellisBestCardSaid :=
  Claim7.holds_tied_plain_at .later [] [.data] true (true, "4dce6ce86a23a33e5b90866702ab56aa573dd357c2acd13007792282d0b4d084") false
    trellisBest_holds (fun _ h => by cases h) (by kernel_rfl) (fun _ h => by cases h) trellisBest_row_tie rfl ⟨rfl, rfl⟩ (by kernel_rfl) rfl
    (fun f fn hf hfn => by
      obtain rfl : f = 5 := Option.some.inj ((show Tryd.prog.funcNamed "quipu/quipukeep.TrellisBest" = some 5 by kernel_rfl).symm.trans hf) |>.symm
      obtain rfl : fn = Tryd.f5 := (Option.some.inj (Tryd.func5.symm.trans hfn)).symm
      exact ⟨by kernel_rfl, fun j t ht => by
        rw [Tryd.params5] at ht
        have hm : t ∈ [22, 22] := by simpa using Array.mem_of_getElem? ht
        have hall : ([22, 22].all fun u => !Tryd.prog.wantsStandIn u) = true := by kernel_rfl
        exact (show Tryd.prog.wantsStandIn t = false by simpa using List.all_eq_true.1 hall t hm)⟩)
    (by kernel_rfl)

#print axioms trellisBest_card

end Go.Proofs.YtnkhlohoaoiefaaDoor
