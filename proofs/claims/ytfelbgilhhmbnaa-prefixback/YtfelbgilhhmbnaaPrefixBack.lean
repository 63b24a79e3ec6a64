/-
  For any code of which no word begins another one, and any symbols, what was written is read: PrefixBack returns true for every list of lists of bits and every list of numbers, and changes nothing.
-/
import Derived.Test.YtfelbgilhhmbnaaOpen
import Derived.Test.YtfelbgilhhmbnaaRd
namespace Go.Proofs.Ytfelbgilhhmbnaa
open Go.ChangeShapes Go.WideShapes Go.ChangeAt Go.RowKit Go.Deep
set_option linter.unusedVariables false

theorem wer_cases (g : List Wd) (z : List Int) (h : erl g = 0) : (wer g z = 0 ∧ Fits g z) ∨ ((wer g z != 0) = true ∧ wout g z = []) := by
  by_cases h64 : z.length ≤ 64
  · cases ha : z.any (wordless g.length) with
    | true =>
      have := wer_arg h h64 ha
      exact Or.inr ⟨by rw [this]; rfl, wout_bad (by rw [this]; decide)⟩
    | false => exact Or.inl ⟨wer_ok h h64 ha, fits_of h h64 ha⟩
  · have := wer_long h (by omega : 64 < z.length)
    exact Or.inr ⟨by rw [this]; rfl, wout_bad (by rw [this]; decide)⟩

set_option maxHeartbeats 1000000 in
theorem prefixBack_walk (a : Option Addr) (c : Nat) (g : List Wd) (z : Nm) (w : World) (hg : Wds w a c g) (hz : Nums w z) :
    Calls Try.prog 4 #[.slice a g.length c, z.v] w fun e w' => e = .returned (.bool true) ∧ Ext w w' := by
  have h11 := prefix_any a c g w hg
  have H13 : Hid (∀ W, Ext w W → Calls Try.prog 11 #[.slice a g.length c, z.v] W fun e w' => (∃ x : Wd, e = .returned (.tuple #[x.v, .int .i64 (wer g z.z)]) ∧ x.l = wout g z.z ∧ Bits w' x) ∧ Ext W w') :=
    fun W e => write_any a c g z W (hg.ext e) (hz.ext e)
  have H19 : Hid (∀ W, Ext w W → Calls Try.prog 12 #[.slice a g.length c] W fun e w' => e = .returned (.bool (erl g == 0)) ∧ w' = W) := fun W e => coded_any a c g W (hg.ext e)
  have H12 : Hid (∀ W, Ext w W → Calls Try.prog 10 #[.slice a g.length c] W fun e w' => e = .returned (.bool (free g)) ∧ Qt W w') := fun W e => refPrefix_any a c g W (hg.ext e)
  have H20 : Hid (∀ W, Ext w W → Calls Try.prog 14 #[.slice a g.length c] W fun e w' => e = .returned (.bool (bareB g)) ∧ w' = W) := fun W e => bare_any a c g W (hg.ext e)
  have HB : Hid (crd g ≠ 0 → ∀ (x : Wd) W, Ext w W → Calls Try.prog 13 #[.slice a g.length c, x.v] W fun e w' => e = .returned (.tuple #[.slice none 0 0, .int .i64 (crd g)]) ∧ Ext W w') := fun h x W e => read_bad a c g x W (hg.ext e) h
  have HK : Hid (crd g = 0 → bareB g = false → free g = true → Fits g z.z → ∀ (x : Wd) W, x.l = written g z.z → Ext w W → Bits W x →
      Calls Try.prog 13 #[.slice a g.length c, x.v] W fun e w' => (∃ u : Nm, u.z = z.z ∧ e = .returned (.tuple #[u.v, .int .i64 0]) ∧ Nums w' u) ∧ Ext W w') := fun h1 h2 h3 hfit x W hx e hb => by
    have hr : rd g (x.l.length + 1) x.l [] = some z.z := by
      have := rd_back g z.z h3 h2 hfit.many hfit.all (x.l.length + 1) 0 (Nat.zero_le _) (by rw [List.drop_zero, ← hx]; omega)
      rwa [List.drop_zero, List.take_zero, ← hx] at this
    refine (read_ok a c g x W (hg.ext e) hb h1 h2).mono ?_
    rintro e' w' ⟨hcase, hb'⟩
    refine ⟨?_, hb'⟩
    rcases hcase with ⟨u, hu, rfl, hn⟩ | ⟨hn, _, _⟩
    · rw [hr] at hu
      exact ⟨u, by injection hu with hu; exact hu.symm, rfl, hn⟩
    · rw [hr] at hn; cases hn
  have HZ : Hid (Nums w z) := hz
  rcases erl_cases g with he | he
  · rw [he] at h11 H19
    rw [wer_large he, wout_bad (by rw [wer_large he]; decide)] at H13
    clear he hg hz H12 H20 HB HK
    generalize g.length = n at *
    simp only [Nm.v] at *
    go_enter Try.func4, Try.ntmps4
    go_wp2_with fail
    refine h11.mono ?_
    rintro e w1 ⟨rfl, hb⟩
    go_wp2_with fail
    refine (H13.out w1 hb).mono ?_
    rintro e w2 ⟨⟨x, rfl, -, -⟩, hb2⟩
    simp only [Wd.v]
    go_wp2_with fail
    refine (H19.out _ (hb.trans hb2)).mono ?_
    rintro e w3 ⟨rfl, rfl⟩
    go_wp2
    go_ret
    exact ⟨rfl, hb.trans hb2⟩
  rw [he] at h11 H19
  have h00 : ((0 : Int) == 0 && free g) = free g := by simp
  rw [h00] at h11
  clear h00
  rcases wer_cases g z.z he with ⟨hw, hfit⟩ | ⟨hw, hout⟩
  · rw [hw, wout_ok hw] at H13
    have HF : Hid (Fits g z.z) := hfit
    cases hfb : (free g && !bareB g) with
    | false =>
      have hcr := crd_form he hfb
      have h16 : Hid (∀ (x : Wd) W, Ext w W → Calls Try.prog 13 #[.slice a g.length c, x.v] W fun e w' => e = .returned (.tuple #[.slice none 0 0, .int .i64 3]) ∧ Ext W w') := by
        have := HB.out (by rw [hcr]; decide)
        rw [hcr] at this
        exact this
      clear he hg hz hw hfit hcr HB HK HZ HF
      cases hf : free g with
      | false =>
        rw [hf] at h11 H12
        clear hf hfb H20
        generalize g.length = n at *
        simp only [Nm.v] at *
        go_enter Try.func4, Try.ntmps4
        go_wp2_with fail
        refine h11.mono ?_
        rintro e w1 ⟨rfl, hb⟩
        go_wp2_with fail
        refine (H13.out w1 hb).mono ?_
        rintro e w2 ⟨⟨x, rfl, -, -⟩, hb2⟩
        have c16 : Hid (∀ W, Ext w W → Calls Try.prog 13 #[.slice a n c, x.v] W fun e w' => e = .returned (.tuple #[.slice none 0 0, .int .i64 3]) ∧ Ext W w') := h16.out x
        clear h16
        simp only [Wd.v] at *
        go_wp2_with fail
        refine (H19.out _ (hb.trans hb2)).mono ?_
        rintro e w3 ⟨rfl, rfl⟩
        go_wp2_with fail
        refine (H12.out _ (hb.trans hb2)).mono ?_
        rintro e w4 ⟨rfl, hb4⟩
        go_wp2_with fail
        refine (c16.out _ ((hb.trans hb2).trans hb4.ext)).mono ?_
        rintro e w5 ⟨rfl, hb5⟩
        go_wp2
        go_ret
        exact ⟨rfl, ((hb.trans hb2).trans hb4.ext).trans hb5⟩
      | true =>
        have hbr : bareB g = true := by rw [hf] at hfb; simpa using hfb
        rw [hf] at h11 H12
        rw [hbr] at H20
        clear hf hfb hbr
        generalize g.length = n at *
        simp only [Nm.v] at *
        go_enter Try.func4, Try.ntmps4
        go_wp2_with fail
        refine h11.mono ?_
        rintro e w1 ⟨rfl, hb⟩
        go_wp2_with fail
        refine (H13.out w1 hb).mono ?_
        rintro e w2 ⟨⟨x, rfl, -, -⟩, hb2⟩
        have c16 : Hid (∀ W, Ext w W → Calls Try.prog 13 #[.slice a n c, x.v] W fun e w' => e = .returned (.tuple #[.slice none 0 0, .int .i64 3]) ∧ Ext W w') := h16.out x
        clear h16
        simp only [Wd.v] at *
        go_wp2_with fail
        refine (H19.out _ (hb.trans hb2)).mono ?_
        rintro e w3 ⟨rfl, rfl⟩
        go_wp2_with fail
        refine (H12.out _ (hb.trans hb2)).mono ?_
        rintro e w4 ⟨rfl, hb4⟩
        go_wp2_with fail
        refine (c16.out _ ((hb.trans hb2).trans hb4.ext)).mono ?_
        rintro e w5 ⟨rfl, hb5⟩
        go_wp2_with fail
        refine (H20.out _ (((hb.trans hb2).trans hb4.ext).trans hb5)).mono ?_
        rintro e w6 ⟨rfl, rfl⟩
        go_wp2
        go_ret
        exact ⟨rfl, ((hb.trans hb2).trans hb4.ext).trans hb5⟩
    | true =>
      have hcr := crd_ok he hfb
      rw [Bool.and_eq_true] at hfb
      have hf := hfb.1
      have hbr : bareB g = false := by simpa using hfb.2
      have h16 : Hid (∀ (x : Wd) W, x.l = written g z.z → Ext w W → Bits W x → Calls Try.prog 13 #[.slice a g.length c, x.v] W fun e w' => (∃ u : Nm, u.z = z.z ∧ e = .returned (.tuple #[u.v, .int .i64 0]) ∧ Nums w' u) ∧ Ext W w') :=
        HK.out hcr hbr hf hfit
      rw [hf] at h11 H12
      rw [hbr] at H20
      clear he hg hz hw hfit hcr HB HK HF hf hfb hbr
      have HI : Hid (∀ (u : Nm) W, u.z = z.z → Nums W u → Nums W z → Calls Try.prog 15 #[u.v, z.v] W fun e w' => e = .returned (.bool true) ∧ Qt W w') := fun u W hu h1 h2 => by
        have := ints_any u z W h1 h2
        rwa [show (u.z == z.z) = true from beq_iff_eq.2 hu] at this
      generalize g.length = n at *
      go_enter Try.func4, Try.ntmps4
      go_wp2_with fail
      refine h11.mono ?_
      rintro e w1 ⟨rfl, hb⟩
      go_wp2_with fail
      refine (H13.out w1 hb).mono ?_
      rintro e w2 ⟨⟨x, rfl, hxl, hxb⟩, hb2⟩
      have c16 : Hid (∀ W, Ext w2 W → Calls Try.prog 13 #[.slice a n c, x.v] W fun e w' => (∃ u : Nm, u.z = z.z ∧ e = .returned (.tuple #[u.v, .int .i64 0]) ∧ Nums w' u) ∧ Ext W w') :=
        fun W e => h16.out x W hxl ((hb.trans hb2).trans e) (hxb.ext e)
      clear h16 hxl hxb
      simp only [Wd.v] at *
      go_wp2_with fail
      refine (H19.out _ (hb.trans hb2)).mono ?_
      rintro e w3 ⟨rfl, rfl⟩
      go_wp2_with fail
      refine (H12.out _ (hb.trans hb2)).mono ?_
      rintro e w4 ⟨rfl, hb4⟩
      go_wp2_with fail
      refine (c16.out _ hb4.ext).mono ?_
      rintro e w5 ⟨⟨u, huz, rfl, hun⟩, hb5⟩
      have c18 : Hid (∀ W, Ext w5 W → Calls Try.prog 15 #[u.v, z.v] W fun e w' => e = .returned (.bool true) ∧ Qt W w') := fun W e => HI.out u W huz (hun.ext e) (HZ.out.ext ((((hb.trans hb2).trans hb4.ext).trans hb5).trans e))
      clear huz hun HI
      simp only [Nm.v] at *
      go_wp2_with fail
      refine (H20.out _ (((hb.trans hb2).trans hb4.ext).trans hb5)).mono ?_
      rintro e w6 ⟨rfl, rfl⟩
      go_wp2_with fail
      refine (c18.out _ (Ext.refl _)).mono ?_
      rintro e w7 ⟨rfl, hb7⟩
      go_wp2
      go_ret
      exact ⟨rfl, (((hb.trans hb2).trans hb4.ext).trans hb5).trans hb7.ext⟩
  · rw [hout] at H13
    clear he hg hz hout HB HK H20 HZ
    generalize wer g z.z = r at *
    generalize free g = q at *
    generalize g.length = n at *
    simp only [Nm.v] at *
    go_enter Try.func4, Try.ntmps4
    go_wp2_with fail
    refine h11.mono ?_
    rintro e w1 ⟨rfl, hb⟩
    go_wp2_with fail
    refine (H13.out w1 hb).mono ?_
    rintro e w2 ⟨⟨⟨xa, xc, xl⟩, rfl, hxl, -⟩, hb2⟩
    simp only at hxl
    subst hxl
    simp only [Wd.v, List.length_nil]
    go_wp2_with fail
    refine (H19.out _ (hb.trans hb2)).mono ?_
    rintro e w3 ⟨rfl, rfl⟩
    go_wp2_with fail
    refine (H12.out _ (hb.trans hb2)).mono ?_
    rintro e w4 ⟨rfl, hb4⟩
    go_wp2
    go_ret
    exact ⟨rfl, (hb.trans hb2).trans hb4.ext⟩

set_option maxRecDepth 100000 in
theorem prefixBack_lifted (os : Os) (started : os.Started) (H : Type) (enc : TypeId × Value → H) :
    ReturnsInHanded {} Try.checked os 4 .any (Rows.prefixBackSpec.pre6 enc Try.prog Try.f4 Rows.prefixBackRow.domain false) (Rows.prefixBackSpec.post enc Try.prog Try.f4 false true false false) := by
  refine returnsInHanded_of_change (C := Try.checked) own started (by kernel_rfl) Try.func4
    (ChangeSpec.witness6 (enc := enc) (C := Try.checked) false ⟨#[], #[.slice none 0 0, .slice none 0 0], []⟩ 8 (by kernel_rfl) (by kernel_rfl) (by kernel_rfl) (by kernel_rfl)) ?_
  intro W base args ds gs before hval0 hW _ _
  have hval : ∀ (j : Nat) t v, Try.f4.params[j]? = some t → args[j]? = some v → Value.okWide Try.prog W .any base t v := hval0
  have hW' := hW
  obtain ⟨p, q, hA0, hV, rfl, hfz, hnd⟩ := hW
  have hA : DataW.TrodAll enc Try.prog W 0 (fun _ => true) true Try.f4.params.toList args.toList ds p := hA0
  rw [Try.params4] at hA hval
  obtain ⟨v0, vs0, d0, ds0, p0, q0, hargs, rfl, rfl, h0, r0⟩ := trodAll_cons hA
  obtain ⟨v1, vs1, d1, ds1, p1, q1, rfl, rfl, rfl, h1, r1⟩ := trodAll_cons r0
  obtain ⟨rfl, rfl, rfl⟩ := trodAll_nil r1
  obtain rfl : args = #[v0, v1] := by cases args; simp_all
  obtain ⟨rfl, rfl⟩ := trodVars_none hV
  have lt0 : ∀ x ∈ p0, x.block < W.heap.size := by obtain ⟨m, hm⟩ := h0; exact DataW.trod_lt m _ _ _ hm
  obtain ⟨a0, c0, g0, rfl, w0⟩ := open_code (hval 0 22 v0 rfl rfl) h0
  have lt1 : ∀ x ∈ p1, x.block < W.heap.size := by obtain ⟨m, hm⟩ := h1; exact DataW.trod_lt m _ _ _ hm
  obtain ⟨x1, rfl, w1⟩ := open_syms (hval 1 28 v1 rfl rfl) h1
  clear hA0 hval0
  refine (prefixBack_walk a0 c0 g0 x1 W w0 w1).mono fun e W' ⟨he, bel⟩ => ?_
  subst he
  exact ⟨_, rfl, _, _, _, [], _, [], hW', trodAll_mk1 (shut_bool Try.underlying4 _), (trodAll_cons_mk (Below.trod laidOut (by kernel_rfl) (of_decide_eq_true (by kernel_rfl)) h0 bel lt0) (trodAll_cons_mk (Below.trod laidOut (by kernel_rfl) (of_decide_eq_true (by kernel_rfl)) h1 bel lt1) trodAll_mk0)), rfl, bel.frame _, fun h => by cases h⟩

theorem prefixBack_holds : Rows.PrefixBackSaid :=
  OpenClaim.holds_of_wide 4 Try.f4 rfl rfl rfl rfl rfl rfl rfl ⟨rfl, rfl, rfl, rfl, rfl⟩ rfl rfl rfl rfl rfl (by kernel_rfl) Try.func4 (by kernel_rfl)
    (of_decide_eq_true (by kernel_rfl)) (by unfold Func.isWrapper; rw [if_neg (of_decide_eq_false (by kernel_rfl))]; exact ⟨rfl, rfl⟩)
    (fun os started H enc _ => prefixBack_lifted os started H enc)

#print axioms prefixBack_holds

end Go.Proofs.Ytfelbgilhhmbnaa
