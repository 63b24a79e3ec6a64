/-
  For any lengths there is a code of which no word begins another one just if they take no more room than there is: KraftFits returns true for every list of numbers, and changes nothing.
-/
import Derived.Test.YtfelbgilhhmbnaaOpen
import Derived.Test.YtfelbgilhhmbnaaMake
import Derived.Test.YtfelbgilhhmbnaaLens
namespace Go.Proofs.Ytfelbgilhhmbnaa
open Go.ChangeShapes Go.WideShapes Go.ChangeAt Go.RowKit Go.Deep
set_option linter.unusedVariables false

theorem word_at_map {g : List Wd} {m : Nat → Nat} {n : Nat} (h : g.map (·.l) = (List.range n).map (word m n)) (i : Nat) (hi : i < g.length) : g[i].l = word m n i := by
  have h1 : (g.map (·.l))[i]? = ((List.range n).map (word m n))[i]? := by rw [h]
  have hn : g.length = n := by have := congrArg List.length h; simpa using this
  rw [List.getElem?_map, List.getElem?_map, List.getElem?_eq_getElem hi, List.getElem?_eq_getElem (by simp; omega)] at h1
  simpa using h1

theorem made_free {g : List Wd} {m : Nat → Nat} {n : Nat} (hf : Fit m n) (h : g.map (·.l) = (List.range n).map (word m n)) : free g = true := by
  have hn : g.length = n := by have := congrArg List.length h; simpa using this
  refine free_true (fun i j hi hj hij => ?_)
  rw [word_at_map h i hi, word_at_map h j hj]
  exact hf.clash (by omega) (by omega) (by omega)

theorem made_erl {g : List Wd} {m : Nat → Nat} {n : Nat} (hf : Fit m n) (h8 : n ≤ 8) (h : g.map (·.l) = (List.range n).map (word m n)) : erl g = 0 := by
  have hn : g.length = n := by have := congrArg List.length h; simpa using this
  refine erl_ok (by omega) (fun x hx => ?_)
  obtain ⟨i, hi, rfl⟩ := List.mem_iff_getElem.1 hx
  rw [word_at_map h i hi, word_length]
  exact hf.le i (by omega)

theorem made_lens {g : List Wd} {z : List Int} (hok : z.any outB = false) (h : g.map (·.l) = (List.range z.length).map (word (ml z) z.length)) : lensOf g = z := by
  have hn : g.length = z.length := by have := congrArg List.length h; simpa using this
  unfold lensOf
  apply List.ext_getElem
  · simpa using hn
  · intro i h1 h2
    rw [List.getElem_map, word_at_map h i (by omega), word_length]
    have := (ml_le hok i h2).2
    rw [← this]
    simp [List.getD_eq_getElem?_getD, h2]

set_option maxHeartbeats 2000000 in
theorem kraftFits_walk (z : Nm) (w : World) (hz : Nums w z) :
    Calls Try.prog 6 #[z.v] w fun e w' => e = .returned (.bool true) ∧ Ext w w' := by
  have h7 := sum_any z w hz
  have H8 : Hid (∀ W, Ext w W → Calls Try.prog 19 #[z.v] W fun e w' => e = .returned (.int .i64 (lerl z.z)) ∧ w' = W) := fun W e => lensCheck_any z W (hz.ext e)
  by_cases hm : mer z.z = 0
  · have H10 : Hid (∀ W, Ext w W → Calls Try.prog 18 #[z.v] W fun e w' => (∃ (B : Nat) (g : List Wd), e = .returned (.tuple #[.slice (some ⟨B, 0, none⟩) g.length g.length, .int .i64 0]) ∧ g.length = z.z.length ∧ g.map (·.l) = (List.range z.z.length).map (word (ml z.z) z.z.length) ∧ Wds w' (some ⟨B, 0, none⟩) g.length g) ∧ Ext W w') := fun W e => make_good z W (hz.ext e) hm
    have hl : lerl z.z = 0 := by
      unfold mer at hm
      by_cases h : lerl z.z = 0
      · exact h
      · simp [h] at hm
    have hk : ksum z.z ≤ 256 := by
      unfold mer at hm
      by_cases h : 256 < ksum z.z
      · simp [h, hl] at hm
      · omega
    rcases lerl_cases z.z with ⟨h, e⟩ | ⟨h, h', e⟩ | ⟨h8, hok, e⟩
    · omega
    · omega
    have HF : Hid (∀ g : List Wd, g.map (·.l) = (List.range z.z.length).map (word (ml z.z) z.z.length) → free g = true ∧ erl g = 0 ∧ lensOf g = z.z) := fun g h => ⟨made_free (fit_of hok hk) h, made_erl (fit_of hok hk) h8 h, made_lens hok h⟩
    have HI : Hid (∀ (x : Nm) W, x.z = z.z → Nums W x → Ext w W → Calls Try.prog 15 #[x.v, z.v] W fun e w' => e = .returned (.bool true) ∧ Qt W w') := fun x W hx hn e => by
      have := ints_any x z W hn (hz.ext e)
      rw [hx] at this
      simpa using this
    rw [hl, if_pos rfl] at h7
    rw [hl] at H8
    have hkz : (ksum z.z : Int) ≤ 256 := by omega
    clear hz hm hl e hok hk
    generalize ksum z.z = K at *
    obtain ⟨za, zc, zz⟩ := z
    simp only [Nm.v] at *
    generalize hn : zz.length = n at *
    clear hn
    go_enter Try.func6, Try.ntmps6
    go_wp2_with fail
    refine h7.mono ?_
    rintro e w1 ⟨rfl, hb1⟩
    go_wp2_with fail
    refine (H10.out w1 hb1).mono ?_
    rintro e w2 ⟨⟨B, g, rfl, hgl, hgw, hg⟩, hb2⟩
    obtain ⟨hf1, hf2, hf3⟩ := HF.out g hgw
    have B2 := hb1.trans hb2
    have h13 := prefix_any (some ⟨B, 0, none⟩) g.length g w2 hg
    rw [hf2, hf1] at h13
    have H15 : Hid (∀ W, Ext w2 W → Calls Try.prog 20 #[.slice (some ⟨B, 0, none⟩) g.length g.length] W fun e w' => (∃ x : Nm, e = .returned x.v ∧ x.z = lensOf g ∧ Nums w' x) ∧ Ext W w') := fun W e => lens_any (some ⟨B, 0, none⟩) g.length g W (hg.ext e) (by omega)
    rw [hf3] at H15
    clear hgw hg hf1 hf2 hf3 H10 HF hgl
    generalize g.length = gl at *
    go_wp2_with fail
    refine (H8.out w2 B2).mono ?_
    rintro e w3 ⟨rfl, rfl⟩
    go_wp2_with fail
    refine h13.mono ?_
    rintro e w4 ⟨rfl, hb4⟩
    go_wp2_with fail
    refine (H15.out w4 hb4).mono ?_
    rintro e w5 ⟨⟨x, rfl, hx, hnx⟩, hb5⟩
    have B5 := (B2.trans hb4).trans hb5
    have hi := HI.out x w5 hx hnx B5
    clear hx hnx
    obtain ⟨xa, xc, xz⟩ := x
    simp only [Nm.v] at hi ⊢
    generalize xz.length = xn at *
    go_wp2_with fail
    refine hi.mono ?_
    rintro e w6 ⟨rfl, hb6⟩
    go_wp2
    go_ret
    exact ⟨rfl, B5.trans hb6.ext⟩
  · have H10 : Hid (∀ W, Ext w W → Calls Try.prog 18 #[z.v] W fun e w' => e = .returned (.tuple #[.slice none 0 0, .int .i64 (mer z.z)]) ∧ Ext W w') := fun W e => make_bad z W (hz.ext e) hm
    clear hz
    by_cases hl : lerl z.z = 0
    · have hk : 256 < ksum z.z := by
        unfold mer at hm
        by_cases h : 256 < ksum z.z
        · exact h
        · simp [h, hl] at hm
      have hm5 : mer z.z = 5 := by unfold mer; rw [if_pos hl, if_pos hk]
      rw [hm5] at H10
      rw [hl, if_pos rfl] at h7
      rw [hl] at H8
      have hkz : ¬ (ksum z.z : Int) ≤ 256 := by omega
      clear hm hm5 hl hk
      generalize ksum z.z = K at *
      simp only [Nm.v] at *
      generalize z.z.length = n at *
      go_enter Try.func6, Try.ntmps6
      go_wp2_with fail
      refine h7.mono ?_
      rintro e w1 ⟨rfl, hb1⟩
      go_wp2_with fail
      refine (H10.out w1 hb1).mono ?_
      rintro e w2 ⟨rfl, hb2⟩
      have B2 := hb1.trans hb2
      go_wp2_with fail
      refine (H8.out w2 B2).mono ?_
      rintro e w3 ⟨rfl, rfl⟩
      go_wp2
      go_ret
      exact ⟨rfl, B2⟩
    · have hml : mer z.z = lerl z.z := by unfold mer; rw [if_neg hl]
      rw [hml] at H10
      rw [if_neg hl] at h7
      have hne : (lerl z.z != 0) = true := by simpa using hl
      clear hm hml hl
      generalize lerl z.z = r at *
      simp only [Nm.v] at *
      generalize z.z.length = n at *
      go_enter Try.func6, Try.ntmps6
      go_wp2_with fail
      refine h7.mono ?_
      rintro e w1 ⟨rfl, hb1⟩
      go_wp2_with fail
      refine (H10.out w1 hb1).mono ?_
      rintro e w2 ⟨rfl, hb2⟩
      have B2 := hb1.trans hb2
      go_wp2_with fail
      refine (H8.out w2 B2).mono ?_
      rintro e w3 ⟨rfl, rfl⟩
      go_wp2
      go_ret
      exact ⟨rfl, B2⟩

set_option maxRecDepth 100000 in
theorem kraftFits_lifted (os : Os) (started : os.Started) (H : Type) (enc : TypeId × Value → H) :
    ReturnsInHanded {} Try.checked os 6 .any (Rows.kraftFitsSpec.pre6 enc Try.prog Try.f6 Rows.kraftFitsRow.domain false) (Rows.kraftFitsSpec.post enc Try.prog Try.f6 false true false false) := by
  refine returnsInHanded_of_change (C := Try.checked) own started (by kernel_rfl) Try.func6
    (ChangeSpec.witness6 (enc := enc) (C := Try.checked) false ⟨#[], #[.slice none 0 0], []⟩ 8 (by kernel_rfl) (by kernel_rfl) (by kernel_rfl) (by kernel_rfl)) ?_
  intro W base args ds gs before hval0 hW _ _
  have hval : ∀ (j : Nat) t v, Try.f6.params[j]? = some t → args[j]? = some v → Value.okWide Try.prog W .any base t v := hval0
  have hW' := hW
  obtain ⟨p, q, hA0, hV, rfl, hfz, hnd⟩ := hW
  have hA : DataW.TrodAll enc Try.prog W 0 (fun _ => true) true Try.f6.params.toList args.toList ds p := hA0
  rw [Try.params6] at hA hval
  obtain ⟨v0, vs0, d0, ds0, p0, q0, hargs, rfl, rfl, h0, r0⟩ := trodAll_cons hA
  obtain ⟨rfl, rfl, rfl⟩ := trodAll_nil r0
  obtain rfl : args = #[v0] := by cases args; simp_all
  obtain ⟨rfl, rfl⟩ := trodVars_none hV
  have lt0 : ∀ x ∈ p0, x.block < W.heap.size := by obtain ⟨m, hm⟩ := h0; exact DataW.trod_lt m _ _ _ hm
  obtain ⟨x0, rfl, w0⟩ := open_syms (hval 0 28 v0 rfl rfl) h0
  clear hA0 hval0
  refine (kraftFits_walk x0 W w0).mono fun e W' ⟨he, bel⟩ => ?_
  subst he
  exact ⟨_, rfl, _, _, _, [], _, [], hW', trodAll_mk1 (shut_bool Try.underlying4 _), (trodAll_cons_mk (Below.trod laidOut (by kernel_rfl) (of_decide_eq_true (by kernel_rfl)) h0 bel lt0) trodAll_mk0), rfl, bel.frame _, fun h => by cases h⟩

theorem kraftFits_holds : Rows.KraftFitsSaid :=
  OpenClaim.holds_of_wide 6 Try.f6 rfl rfl rfl rfl rfl rfl rfl ⟨rfl, rfl, rfl, rfl, rfl⟩ rfl rfl rfl rfl rfl (by kernel_rfl) Try.func6 (by kernel_rfl)
    (of_decide_eq_true (by kernel_rfl)) (by unfold Func.isWrapper; rw [if_neg (of_decide_eq_false (by kernel_rfl))]; exact ⟨rfl, rfl⟩)
    (fun os started H enc _ => kraftFits_lifted os started H enc)

#print axioms kraftFits_holds

end Go.Proofs.Ytfelbgilhhmbnaa
