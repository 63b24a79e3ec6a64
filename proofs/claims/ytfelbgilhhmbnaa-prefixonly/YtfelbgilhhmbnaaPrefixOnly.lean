/-
  For any code and any bits, what is read is written as these: PrefixOnly returns true for every list of lists of bits and every list of bits, and changes nothing.
-/
import Derived.Test.YtfelbgilhhmbnaaOpen
import Derived.Test.YtfelbgilhhmbnaaRd
namespace Go.Proofs.Ytfelbgilhhmbnaa
open Go.ChangeShapes Go.WideShapes Go.ChangeAt Go.RowKit Go.Deep
set_option linter.unusedVariables false

set_option maxHeartbeats 1000000 in
theorem prefixOnly_walk (a : Option Addr) (c : Nat) (g : List Wd) (y : Wd) (w : World) (hg : Wds w a c g) (hy : Bits w y) :
    Calls Try.prog 5 #[.slice a g.length c, y.v] w fun e w' => e = .returned (.bool true) ∧ Ext w w' := by
  have H19 : Hid (∀ W, Ext w W → Calls Try.prog 12 #[.slice a g.length c] W fun e w' => e = .returned (.bool (erl g == 0)) ∧ w' = W) := fun W e => coded_any a c g W (hg.ext e)
  have H12 : Hid (∀ W, Ext w W → Calls Try.prog 10 #[.slice a g.length c] W fun e w' => e = .returned (.bool (free g)) ∧ Qt W w') := fun W e => refPrefix_any a c g W (hg.ext e)
  have H20 : Hid (∀ W, Ext w W → Calls Try.prog 14 #[.slice a g.length c] W fun e w' => e = .returned (.bool (bareB g)) ∧ w' = W) := fun W e => bare_any a c g W (hg.ext e)
  have BAD : Hid (crd g ≠ 0 → Calls Try.prog 13 #[.slice a g.length c, y.v] w fun e w' => e = .returned (.tuple #[.slice none 0 0, .int .i64 (crd g)]) ∧ Ext w w') := fun h => read_bad a c g y w hg h
  rcases erl_cases g with he | he
  · have h16 := BAD.out (by rw [crd_large he]; decide)
    rw [crd_large he] at h16
    rw [he] at H19
    clear he hg hy H12 H20 BAD
    generalize g.length = n at *
    simp only [Wd.v] at *
    go_enter Try.func5, Try.ntmps5
    go_wp2_with fail
    refine h16.mono ?_
    rintro e w1 ⟨rfl, hb⟩
    go_wp2_with fail
    refine (H19.out w1 hb).mono ?_
    rintro e w2 ⟨rfl, rfl⟩
    go_wp2
    go_ret
    exact ⟨rfl, hb⟩
  rw [he] at H19
  cases hf : free g with
  | false =>
    have hcr := crd_form he (by rw [hf]; rfl)
    have h16 := BAD.out (by rw [hcr]; decide)
    rw [hcr] at h16
    rw [hf] at H12
    clear he hf hcr hg hy H20 BAD
    generalize g.length = n at *
    simp only [Wd.v] at *
    go_enter Try.func5, Try.ntmps5
    go_wp2_with fail
    refine h16.mono ?_
    rintro e w1 ⟨rfl, hb⟩
    go_wp2_with fail
    refine (H19.out w1 hb).mono ?_
    rintro e w2 ⟨rfl, rfl⟩
    go_wp2_with fail
    refine (H12.out _ hb).mono ?_
    rintro e w3 ⟨rfl, hb3⟩
    go_wp2
    go_ret
    exact ⟨rfl, hb.trans hb3.ext⟩
  | true =>
    rw [hf] at H12
    cases hbr : bareB g with
    | true =>
      have hcr := crd_form he (by rw [hf, hbr]; rfl)
      have h16 := BAD.out (by rw [hcr]; decide)
      rw [hcr] at h16
      rw [hbr] at H20
      clear he hf hbr hcr hg hy BAD
      generalize g.length = n at *
      simp only [Wd.v] at *
      go_enter Try.func5, Try.ntmps5
      go_wp2_with fail
      refine h16.mono ?_
      rintro e w1 ⟨rfl, hb⟩
      go_wp2_with fail
      refine (H19.out w1 hb).mono ?_
      rintro e w2 ⟨rfl, rfl⟩
      go_wp2_with fail
      refine (H12.out _ hb).mono ?_
      rintro e w3 ⟨rfl, hb3⟩
      go_wp2_with fail
      refine (H20.out _ (hb.trans hb3.ext)).mono ?_
      rintro e w4 ⟨rfl, rfl⟩
      go_wp2
      go_ret
      exact ⟨rfl, hb.trans hb3.ext⟩
    | false =>
      have hcr := crd_ok he (by rw [hf, hbr]; rfl)
      have h16 := read_ok a c g y w hg hy hcr hbr
      rw [hbr] at H20
      have HZ : Hid (∀ z, rd g (y.l.length + 1) y.l [] = some z → z.length ≤ 64 ∧ wer g z = 0 ∧ wout g z = y.l) := fun z hz => by
        obtain ⟨h1, h2, h3⟩ := rd_written g _ _ _ _ hz (by simp) (by simp)
        have hw : wer g z = 0 := wer_ok he h1 (List.any_eq_false.2 (fun s hs => by have := h2 s hs; simp [wordless]; omega))
        exact ⟨h1, hw, by rw [wout_ok hw, h3]; simp [written]⟩
      have H13 : Hid (∀ (z : Nm) W, Ext w W → Nums W z → Calls Try.prog 11 #[.slice a g.length c, z.v] W fun e w' => (∃ x : Wd, e = .returned (.tuple #[x.v, .int .i64 (wer g z.z)]) ∧ x.l = wout g z.z ∧ Bits w' x) ∧ Ext W w') :=
        fun z W e hz => write_any a c g z W (hg.ext e) hz
      have HY : Hid (Bits w y) := hy
      clear he hf hbr hcr hg hy BAD
      generalize g.length = n at *
      simp only [Wd.v] at h16 ⊢
      go_enter Try.func5, Try.ntmps5
      go_wp2_with fail
      refine h16.mono ?_
      clear h16
      rintro e w1 ⟨hcase, hb⟩
      rcases hcase with ⟨x, hz, rfl, hx⟩ | ⟨_, hne, rfl⟩
      · obtain ⟨z1, z2, z3⟩ := HZ.out x.z hz
        have h13 : Hid (∀ W, Ext w1 W → Calls Try.prog 11 #[.slice a n c, x.v] W fun e w' => (∃ u : Wd, e = .returned (.tuple #[u.v, .int .i64 0]) ∧ u.l = y.l ∧ Bits w' u) ∧ Ext W w') := fun W e => by
          have := H13.out x W (hb.trans e) (hx.ext e)
          rw [z2, z3] at this
          exact this
        have hz64 : ¬ (64 : Int) < (x.z.length : Int) := by omega
        clear hz z2 z3 H13 HZ hx
        simp only [Nm.v] at *
        go_wp2_with fail
        refine (H19.out w1 hb).mono ?_
        rintro e w2 ⟨rfl, rfl⟩
        go_wp2_with fail
        refine (H12.out _ hb).mono ?_
        rintro e w3 ⟨rfl, hb3⟩
        go_wp2_with fail
        refine (H20.out _ (hb.trans hb3.ext)).mono ?_
        rintro e w4 ⟨rfl, rfl⟩
        go_wp2_with fail
        refine (h13.out _ hb3.ext).mono ?_
        rintro e w5 ⟨⟨u, rfl, hul, hub⟩, hb5⟩
        have c14 := bools_any u y w5 hub (HY.out.ext ((hb.trans hb3.ext).trans hb5))
        rw [show (u.l == y.l) = true from beq_iff_eq.2 hul] at c14
        clear hul hub
        simp only [Wd.v] at *
        go_wp2_with fail
        refine c14.mono ?_
        rintro e w6 ⟨rfl, hb6⟩
        go_wp2
        go_ret
        exact ⟨rfl, ((hb.trans hb3.ext).trans hb5).trans hb6.ext⟩
      · have hpos : (0 : Int) < (y.l.length : Int) := by omega
        clear hne H13 HZ
        go_wp2_with fail
        refine (H19.out w1 hb).mono ?_
        rintro e w2 ⟨rfl, rfl⟩
        go_wp2_with fail
        refine (H12.out _ hb).mono ?_
        rintro e w3 ⟨rfl, hb3⟩
        go_wp2_with fail
        refine (H20.out _ (hb.trans hb3.ext)).mono ?_
        rintro e w4 ⟨rfl, rfl⟩
        go_wp2
        go_ret
        exact ⟨ret_bool (decide_eq_true (by omega)), hb.trans hb3.ext⟩

set_option maxRecDepth 100000 in
theorem prefixOnly_lifted (os : Os) (started : os.Started) (H : Type) (enc : TypeId × Value → H) :
    ReturnsInHanded {} Try.checked os 5 .any (Rows.prefixOnlySpec.pre6 enc Try.prog Try.f5 Rows.prefixOnlyRow.domain false) (Rows.prefixOnlySpec.post enc Try.prog Try.f5 false true false false) := by
  refine returnsInHanded_of_change (C := Try.checked) own started (by kernel_rfl) Try.func5
    (ChangeSpec.witness6 (enc := enc) (C := Try.checked) false ⟨#[], #[.slice none 0 0, .slice none 0 0], []⟩ 8 (by kernel_rfl) (by kernel_rfl) (by kernel_rfl) (by kernel_rfl)) ?_
  intro W base args ds gs before hval0 hW _ _
  have hval : ∀ (j : Nat) t v, Try.f5.params[j]? = some t → args[j]? = some v → Value.okWide Try.prog W .any base t v := hval0
  have hW' := hW
  obtain ⟨p, q, hA0, hV, rfl, hfz, hnd⟩ := hW
  have hA : DataW.TrodAll enc Try.prog W 0 (fun _ => true) true Try.f5.params.toList args.toList ds p := hA0
  rw [Try.params5] at hA hval
  obtain ⟨v0, vs0, d0, ds0, p0, q0, hargs, rfl, rfl, h0, r0⟩ := trodAll_cons hA
  obtain ⟨v1, vs1, d1, ds1, p1, q1, rfl, rfl, rfl, h1, r1⟩ := trodAll_cons r0
  obtain ⟨rfl, rfl, rfl⟩ := trodAll_nil r1
  obtain rfl : args = #[v0, v1] := by cases args; simp_all
  obtain ⟨rfl, rfl⟩ := trodVars_none hV
  have lt0 : ∀ x ∈ p0, x.block < W.heap.size := by obtain ⟨m, hm⟩ := h0; exact DataW.trod_lt m _ _ _ hm
  obtain ⟨a0, c0, g0, rfl, w0⟩ := open_code (hval 0 22 v0 rfl rfl) h0
  have lt1 : ∀ x ∈ p1, x.block < W.heap.size := by obtain ⟨m, hm⟩ := h1; exact DataW.trod_lt m _ _ _ hm
  obtain ⟨x1, rfl, w1⟩ := open_word (hval 1 29 v1 rfl rfl) h1
  clear hA0 hval0
  refine (prefixOnly_walk a0 c0 g0 x1 W w0 w1).mono fun e W' ⟨he, bel⟩ => ?_
  subst he
  exact ⟨_, rfl, _, _, _, [], _, [], hW', trodAll_mk1 (shut_bool Try.underlying4 _), (trodAll_cons_mk (Below.trod laidOut (by kernel_rfl) (of_decide_eq_true (by kernel_rfl)) h0 bel lt0) (trodAll_cons_mk (Below.trod laidOut (by kernel_rfl) (of_decide_eq_true (by kernel_rfl)) h1 bel lt1) trodAll_mk0)), rfl, bel.frame _, fun h => by cases h⟩

theorem prefixOnly_holds : Rows.PrefixOnlySaid :=
  OpenClaim.holds_of_wide 5 Try.f5 rfl rfl rfl rfl rfl rfl rfl ⟨rfl, rfl, rfl, rfl, rfl⟩ rfl rfl rfl rfl rfl (by kernel_rfl) Try.func5 (by kernel_rfl)
    (of_decide_eq_true (by kernel_rfl)) (by unfold Func.isWrapper; rw [if_neg (of_decide_eq_false (by kernel_rfl))]; exact ⟨rfl, rfl⟩)
    (fun os started H enc _ => prefixOnly_lifted os started H enc)

#print axioms prefixOnly_holds

end Go.Proofs.Ytfelbgilhhmbnaa
