/-
  For any code of which no two texts are alike, and any two texts with the same bits, they are the same; and what is told to be alike is: UniqueTexts returns true for every list of lists of bits and every two lists of numbers, and changes nothing.
-/
import Derived.Test.YtlhkifbjbibfoaaOpen
import Derived.Test.YtlhkifbjbibfoaaUni
import Derived.Test.YtlhkifbjbibfoaaWrite2
namespace Go.Proofs.Ytlhkifbjbibfoaa
open Go.ChangeShapes Go.WideShapes Go.ChangeAt Go.RowKit Go.Deep
set_option linter.unusedVariables false

theorem written_wrt (g : List Wd) (z : List Int) : written g z = wrt (wl g) z := by
  unfold written wrt
  congr 1
  funext s
  simp only [List.getD_eq_getElem?_getD, List.getElem?_map]
  cases g[s.toNat]? <;> rfl

theorem wer_valid {g : List Wd} {z : List Int} (h : wer g z = 0) : Valid (wl g).length z := by
  have h0 : erl g = 0 := by
    rcases erl_two g with h1 | h1
    · rw [wer_large h1] at h; cases h
    · exact h1
  have h64 : z.length ≤ 64 := by
    rcases Nat.lt_or_ge 64 z.length with h1 | h1
    · rw [wer_long h0 h1] at h; cases h
    · exact h1
  have ha : z.any (wordless g.length) = false := by
    cases hz : z.any (wordless g.length)
    · rfl
    · rw [wer_arg h0 h64 hz] at h; cases h
  intro s hs
  have := (fits_of h0 h64 ha).all s hs
  simpa using this

set_option maxHeartbeats 2000000 in
theorem uniqueTexts_walk (a : Option Addr) (c : Nat) (g : List Wd) (x y : Nm) (w : World) (hg : Wds w a c g) (hx : Nums w x) (hy : Nums w y) :
    Calls Try.prog 7 #[.slice a g.length c, x.v, y.v] w fun e w' => e = .returned (.bool true) ∧ Ext w w' := by
  have HG : Hid (Wds w a c g) := hg
  have h8 := unique_any a c g w hg
  have H15 : Hid (∀ W, Ext w W → Calls Try.prog 15 #[.slice a g.length c] W fun e w' => e = .returned (.bool (erl g == 0)) ∧ w' = W) := fun W e => coded_any a c g W (hg.ext e)
  have H20 : Hid (∀ (z : Nm) W, Ext w W → Nums W z → Calls Try.prog 20 #[.slice a g.length c, z.v] W fun e w' => (∃ x : Wd, e = .returned (.tuple #[x.v, .int .i64 (wer g z.z)]) ∧ x.l = wout g z.z ∧ Bits w' x) ∧ Ext W w') := fun z W e hz => write_any a c g z W (HG.out.ext e) hz
  have HA : Hid (Nums w x) := hx
  have HB : Hid (Nums w y) := hy
  clear hx hy
  obtain ⟨aa, ac, az⟩ := x
  obtain ⟨ba, bc, bz⟩ := y
  obtain ⟨an, han⟩ : ∃ an, az.length = an := ⟨_, rfl⟩
  obtain ⟨bn, hbn⟩ : ∃ bn, bz.length = bn := ⟨_, rfl⟩
  have HAN : Hid (az.length = an) := han
  have HBN : Hid (bz.length = bn) := hbn
  simp only [Nm.v, han, hbn]
  clear han hbn
  rcases erl_two g with he | he
  · have H11 : Hid (∀ W, Ext w W → Calls Try.prog 11 #[.slice a g.length c] W fun e w' => e = .returned (.tuple #[.slice none 0 0, .slice none 0 0, .int .i64 1]) ∧ Ext W w') := fun W e => twice_bad a c g W (HG.out.ext e) he
    have hu : ub g = false := by simp [ub, he]
    rw [he] at h8 H15
    rw [hu] at h8
    clear hg he hu H20 HA HB HG
    generalize g.length = n at *
    go_enter Try.func7, Try.ntmps7
    go_wp2_with fail
    refine h8.mono ?_
    rintro e w1 ⟨rfl, hb1⟩
    go_wp2_with fail
    refine (H11.out w1 hb1).mono ?_
    rintro e w2 ⟨rfl, hb2⟩
    have B2 := hb1.trans hb2
    go_wp2_with fail
    refine (H15.out w2 B2).mono ?_
    rintro e w3 ⟨rfl, rfl⟩
    go_wp2
    go_ret
    exact ⟨rfl, B2⟩
  · have H11 : Hid (∀ W, Ext w W → Calls Try.prog 11 #[.slice a g.length c] W fun e w' => Ext W w' ∧ ∃ x y : Nm, Nums w' x ∧ Nums w' y ∧
      ((e = .returned (.tuple #[x.v, y.v, .int .i64 5]) ∧ Uniq (wl g) ∧ x.z = [] ∧ y.z = []) ∨ (e = .returned (.tuple #[x.v, y.v, .int .i64 0]) ∧ Good (wl g) x.z y.z [] ∧ x.z.length + y.z.length ≤ 600))) := fun W e => twice_good a c g W (HG.out.ext e) he
    have hu : ub g = uq g := by simp [ub, he]
    rw [he] at h8 H15
    rw [hu] at h8
    clear hg he hu HG
    obtain ⟨n, hn⟩ : ∃ n, g.length = n := ⟨_, rfl⟩
    rw [hn] at h8 H11 H15 H20 ⊢
    obtain ⟨r, hr⟩ : ∃ r, uq g = r := ⟨_, rfl⟩
    have HQ : Hid (uq g = r) := hr
    rw [hr] at h8
    clear hn hr
    have HW1 : Hid (∀ W, Ext w W → Calls Try.prog 20 #[.slice a n c, .slice aa an ac] W fun e w' => (∃ x : Wd, e = .returned (.tuple #[x.v, .int .i64 (wer g az)]) ∧ x.l = wout g az ∧ Bits w' x) ∧ Ext W w') := fun W e => by
      have := H20.out ⟨aa, ac, az⟩ W e (HA.out.ext e)
      simp only [Nm.v] at this
      rw [HAN.out] at this
      exact this
    have HW2 : Hid (∀ W, Ext w W → Calls Try.prog 20 #[.slice a n c, .slice ba bn bc] W fun e w' => (∃ x : Wd, e = .returned (.tuple #[x.v, .int .i64 (wer g bz)]) ∧ x.l = wout g bz ∧ Bits w' x) ∧ Ext W w') := fun W e => by
      have := H20.out ⟨ba, bc, bz⟩ W e (HB.out.ext e)
      simp only [Nm.v] at this
      rw [HBN.out] at this
      exact this
    clear H20
    go_enter Try.func7, Try.ntmps7
    go_wp2_with fail
    refine h8.mono ?_
    rintro e w1 ⟨rfl, hb1⟩
    go_wp2_with fail
    refine (H11.out w1 hb1).mono ?_
    rintro e w2 ⟨hb2, x, y, hx, hy, ⟨rfl, hU, hx0, hy0⟩ | ⟨rfl, hgood, hlen⟩⟩
    · have B2 := hb1.trans hb2
      have HUQ : Hid (Uniq (wl g)) := hU
      have hrt : r = true := by rw [← HQ.out]; exact uq_true hU
      clear hU hx hy HQ
      subst hrt
      obtain ⟨xa, xc, xz⟩ := x
      obtain ⟨ya, yc, yz⟩ := y
      simp only at hx0 hy0
      subst hx0 hy0
      simp only [Nm.v, List.length_nil]
      go_wp2_with fail
      refine (H15.out w2 B2).mono ?_
      rintro e w4 ⟨rfl, rfl⟩
      have B4 := B2
      go_wp2_with fail
      refine (HW1.out w4 B4).mono ?_
      rintro e w5 ⟨⟨u, rfl, hu, hub⟩, hb5⟩
      have B5 := B4.trans hb5
      have HU : Hid (u.l = wout g az ∧ Bits w5 u) := ⟨hu, hub⟩
      clear hu hub
      obtain ⟨ua, uc, ul⟩ := u
      obtain ⟨un, hun⟩ : ∃ un, ul.length = un := ⟨_, rfl⟩
      have HUN : Hid (ul.length = un) := hun
      simp only [Wd.v, hun] at HU ⊢
      clear hun
      go_wp2_with fail
      refine (HW2.out w5 B5).mono ?_
      rintro e w6 ⟨⟨v, rfl, hv, hvb⟩, hb6⟩
      have B6 := B5.trans hb6
      have HV : Hid (v.l = wout g bz ∧ Bits w6 v) := ⟨hv, hvb⟩
      clear hv hvb
      obtain ⟨va, vc, vl⟩ := v
      obtain ⟨vn, hvn⟩ : ∃ vn, vl.length = vn := ⟨_, rfl⟩
      have HVN : Hid (vl.length = vn) := hvn
      simp only [Wd.v, hvn] at HV ⊢
      clear hvn
      by_cases hwa : wer g az = 0
      · by_cases hwb : wer g bz = 0
        · have h13 := bools_any ⟨ua, uc, ul⟩ ⟨va, vc, vl⟩ w6 (HU.out.2.ext hb6) HV.out.2
          simp only [Wd.v] at h13
          rw [HUN.out, HVN.out] at h13
          have hcon : Hid (ul = vl → az = bz) := fun e => by
            have h1 := HU.out.1
            have h2 := HV.out.1
            rw [h1, h2, wout_ok hwa, wout_ok hwb, written_wrt, written_wrt] at e
            exact HUQ.out az bz (wer_valid hwa) (wer_valid hwb) e
          rw [hwa, hwb]
          cases hbe : (ul == vl)
          · rw [hbe] at h13
            go_wp2_with fail
            refine h13.mono ?_
            rintro e w7 ⟨rfl, hb7⟩
            go_wp2
            go_ret
            exact ⟨rfl, B6.trans hb7.ext⟩
          · have hab : (az == bz) = true := beq_iff_eq.2 (hcon.out (beq_iff_eq.1 hbe))
            rw [hbe] at h13
            have H12 : Hid (∀ W, Ext w6 W → Calls Try.prog 12 #[.slice aa an ac, .slice ba bn bc] W fun e w' => e = .returned (.bool true) ∧ Qt W w') := fun W e => by
              have := ints_any ⟨aa, ac, az⟩ ⟨ba, bc, bz⟩ W (HA.out.ext (B6.trans e)) (HB.out.ext (B6.trans e))
              simp only [Nm.v] at this
              rw [HAN.out, HBN.out, hab] at this
              exact this
            clear hab hbe
            go_wp2_with fail
            refine h13.mono ?_
            rintro e w7 ⟨rfl, hb7⟩
            have h12 := H12.out w7 hb7.ext
            go_wp2_with fail
            refine h12.mono ?_
            rintro e w8 ⟨rfl, hb8⟩
            go_wp2
            go_ret
            exact ⟨rfl, (B6.trans hb7.ext).trans hb8.ext⟩
        · have hb' : (wer g bz != 0) = true := bne_iff_ne.2 hwb
          rw [hwa]
          generalize wer g bz = wb at *
          clear hwa
          go_wp2
          go_ret
          exact ⟨rfl, B6⟩
      · have ha' : (wer g az != 0) = true := bne_iff_ne.2 hwa
        generalize wer g bz = wb at *
        generalize wer g az = wa at *
        go_wp2
        go_ret
        exact ⟨rfl, B6⟩
    · have B2 := hb1.trans hb2
      have hrt : r = false := by rw [← HQ.out]; exact uq_false hgood.not
      clear HQ
      subst hrt
      have H12 := ints_any x y w2 hx hy
      have hne : (x.z == y.z) = false := beq_eq_false_iff_ne.2 hgood.ne
      rw [hne] at H12
      clear hgood hlen hx hy hne
      obtain ⟨xa, xc, xz⟩ := x
      obtain ⟨ya, yc, yz⟩ := y
      simp only [Nm.v] at H12 ⊢
      generalize xz.length = xn at *
      generalize yz.length = yn at *
      go_wp2_with fail
      refine (H15.out w2 B2).mono ?_
      rintro e w3 ⟨rfl, rfl⟩
      go_wp2_with fail
      refine H12.mono ?_
      rintro e w4 ⟨rfl, hb4⟩
      have B4 := B2.trans hb4.ext
      go_wp2_with fail
      refine (HW1.out w4 B4).mono ?_
      rintro e w5 ⟨⟨u, rfl, hu, hub⟩, hb5⟩
      have B5 := B4.trans hb5
      have HU : Hid (u.l = wout g az ∧ Bits w5 u) := ⟨hu, hub⟩
      clear hu hub
      obtain ⟨ua, uc, ul⟩ := u
      obtain ⟨un, hun⟩ : ∃ un, ul.length = un := ⟨_, rfl⟩
      have HUN : Hid (ul.length = un) := hun
      simp only [Wd.v, hun] at HU ⊢
      clear hun
      go_wp2_with fail
      refine (HW2.out w5 B5).mono ?_
      rintro e w6 ⟨⟨v, rfl, hv, hvb⟩, hb6⟩
      have B6 := B5.trans hb6
      have HV : Hid (v.l = wout g bz ∧ Bits w6 v) := ⟨hv, hvb⟩
      clear hv hvb
      obtain ⟨va, vc, vl⟩ := v
      obtain ⟨vn, hvn⟩ : ∃ vn, vl.length = vn := ⟨_, rfl⟩
      have HVN : Hid (vl.length = vn) := hvn
      simp only [Wd.v, hvn] at HV ⊢
      clear hvn
      go_wp2
      all_goals (go_ret; exact ⟨ret_bool (by simp), B6⟩)

set_option maxRecDepth 100000 in
theorem uniqueTexts_lifted (os : Os) (started : os.Started) (H : Type) (enc : TypeId × Value → H) :
    ReturnsInHanded {} Try.checked os 7 .any (Rows.uniqueTextsSpec.pre6 enc Try.prog Try.f7 Rows.uniqueTextsRow.domain false) (Rows.uniqueTextsSpec.post enc Try.prog Try.f7 false true false false) := by
  refine returnsInHanded_of_change (C := Try.checked) own started (by kernel_rfl) Try.func7
    (ChangeSpec.witness6 (enc := enc) (C := Try.checked) false ⟨#[], #[.slice none 0 0, .slice none 0 0, .slice none 0 0], []⟩ 8 (by kernel_rfl) (by kernel_rfl) (by kernel_rfl) (by kernel_rfl)) ?_
  intro W base args ds gs before hval0 hW _ _
  have hval : ∀ (j : Nat) t v, Try.f7.params[j]? = some t → args[j]? = some v → Value.okWide Try.prog W .any base t v := hval0
  have hW' := hW
  obtain ⟨p, q, hA0, hV, rfl, hfz, hnd⟩ := hW
  have hA : DataW.TrodAll enc Try.prog W 0 (fun _ => true) true Try.f7.params.toList args.toList ds p := hA0
  rw [Try.params7] at hA hval
  obtain ⟨v0, vs0, d0, ds0, p0, q0, hargs, rfl, rfl, h0, r0⟩ := trodAll_cons hA
  obtain ⟨v1, vs1, d1, ds1, p1, q1, rfl, rfl, rfl, h1, r1⟩ := trodAll_cons r0
  obtain ⟨v2, vs2, d2, ds2, p2, q2, rfl, rfl, rfl, h2, r2⟩ := trodAll_cons r1
  obtain ⟨rfl, rfl, rfl⟩ := trodAll_nil r2
  obtain rfl : args = #[v0, v1, v2] := by cases args; simp_all
  obtain ⟨rfl, rfl⟩ := trodVars_none hV
  have lt0 : ∀ x ∈ p0, x.block < W.heap.size := by obtain ⟨m, hm⟩ := h0; exact DataW.trod_lt m _ _ _ hm
  obtain ⟨a0, c0, g0, rfl, w0⟩ := open_code (hval 0 22 v0 rfl rfl) h0
  have lt1 : ∀ x ∈ p1, x.block < W.heap.size := by obtain ⟨m, hm⟩ := h1; exact DataW.trod_lt m _ _ _ hm
  obtain ⟨x1, rfl, w1⟩ := open_syms (hval 1 28 v1 rfl rfl) h1
  have lt2 : ∀ x ∈ p2, x.block < W.heap.size := by obtain ⟨m, hm⟩ := h2; exact DataW.trod_lt m _ _ _ hm
  obtain ⟨x2, rfl, w2⟩ := open_syms (hval 2 28 v2 rfl rfl) h2
  clear hA0 hval0
  refine (uniqueTexts_walk a0 c0 g0 x1 x2 W w0 w1 w2).mono fun e W' ⟨he, bel⟩ => ?_
  subst he
  exact ⟨_, rfl, _, _, _, [], _, [], hW', trodAll_mk1 (shut_bool Try.underlying4 _), (trodAll_cons_mk (Below.trod laidOut (by kernel_rfl) (of_decide_eq_true (by kernel_rfl)) h0 bel lt0) (trodAll_cons_mk (Below.trod laidOut (by kernel_rfl) (of_decide_eq_true (by kernel_rfl)) h1 bel lt1) (trodAll_cons_mk (Below.trod laidOut (by kernel_rfl) (of_decide_eq_true (by kernel_rfl)) h2 bel lt2) trodAll_mk0))), rfl, bel.frame _, fun h => by cases h⟩

theorem uniqueTexts_holds : Rows.UniqueTextsSaid :=
  OpenClaim.holds_of_wide 7 Try.f7 rfl rfl rfl rfl rfl rfl rfl ⟨rfl, rfl, rfl, rfl, rfl⟩ rfl rfl rfl rfl rfl (by kernel_rfl) Try.func7 (by kernel_rfl)
    (of_decide_eq_true (by kernel_rfl)) (by unfold Func.isWrapper; rw [if_neg (of_decide_eq_false (by kernel_rfl))]; exact ⟨rfl, rfl⟩)
    (fun os started H enc _ => uniqueTexts_lifted os started H enc)

#print axioms uniqueTexts_holds

end Go.Proofs.Ytlhkifbjbibfoaa
