/-
  For any code of which no word begins another one its lengths take no more room than there is: KraftAny returns true for every list of lists of bits, and changes nothing.
-/
import Derived.Test.YtfelbgilhhmbnaaOpen
import Derived.Test.YtfelbgilhhmbnaaRefPrefix
import Derived.Test.YtfelbgilhhmbnaaLens
namespace Go.Proofs.Ytfelbgilhhmbnaa
open Go.ChangeShapes Go.WideShapes Go.ChangeAt Go.RowKit Go.Deep
set_option linter.unusedVariables false

set_option maxHeartbeats 1000000 in
theorem kraftAny_walk (a : Option Addr) (c : Nat) (g : List Wd) (w : World) (hg : Wds w a c g) (hsz : g.length * 8 ≤ 140737488355328) :
    Calls Try.prog 7 #[.slice a g.length c] w fun e w' => e = .returned (.bool true) ∧ Ext w w' := by
  have h13 := prefix_any a c g w hg
  have H15 : Hid (∀ W, Ext w W → Calls Try.prog 20 #[.slice a g.length c] W fun e w' => (∃ x : Nm, e = .returned x.v ∧ x.z = lensOf g ∧ Nums w' x) ∧ Ext W w') := fun W e => lens_any a c g W (hg.ext e) hsz
  have H16 : Hid (∀ W, Ext w W → Calls Try.prog 12 #[.slice a g.length c] W fun e w' => e = .returned (.bool (erl g == 0)) ∧ w' = W) := fun W e => coded_any a c g W (hg.ext e)
  have H17 : Hid (∀ W, Ext w W → Calls Try.prog 10 #[.slice a g.length c] W fun e w' => e = .returned (.bool (free g)) ∧ Qt W w') := fun W e => refPrefix_any a c g W (hg.ext e)
  clear hg hsz
  have H7 : Hid (∀ (x : Nm) W, Nums W x → Calls Try.prog 17 #[x.v] W fun e w' => e = .returned (.tuple #[.int .i64 (if lerl x.z = 0 then (ksum x.z : Int) else 0), .int .i64 (lerl x.z)]) ∧ Ext W w') := fun x W h => sum_any x W h
  by_cases he : erl g = 0
  · have hle : Hid (free g = true → ksum (lensOf g) ≤ 256) := fun h => kraft_le he h
    have hpos : Hid (g.length ≠ 0 → 0 < ksum (lensOf g)) := fun h => ksum_pos _ (fun h' => h (by
      have := congrArg List.length h'
      simpa [lensOf] using this))
    have hl0 : Hid (lerl (lensOf g) = 0) := lerl_lens he
    rw [he] at h13 H16
    clear he
    have HS : Hid (∀ (x : Nm) W, x.z = lensOf g → Nums W x → Calls Try.prog 17 #[x.v] W fun e w' => e = .returned (.tuple #[.int .i64 (ksum (lensOf g) : Int), .int .i64 0]) ∧ Ext W w') := fun x W hx h => by
      have := H7.out x W h
      rw [hx, hl0.out, if_pos rfl] at this
      exact this
    clear H7 hl0
    generalize ksum (lensOf g) = K at *
    generalize lensOf g = ll at *
    generalize g.length = n at *
    by_cases hn : n = 0
    · subst hn
      cases hf : free g with
      | true =>
        have hK := hle.out hf
        have hKz : (K : Int) ≤ 256 := by omega
        rw [hf] at h13 H17
        clear hf hle hpos hK
        go_enter Try.func7, Try.ntmps7
        go_wp2_with fail
        refine h13.mono ?_
        rintro e w1 ⟨rfl, hb1⟩
        go_wp2_with fail
        refine (H15.out w1 hb1).mono ?_
        rintro e w2 ⟨⟨x, rfl, hx, hnx⟩, hb2⟩
        have h7 := HS.out x w2 hx hnx
        clear hx hnx
        obtain ⟨xa, xc, xz⟩ := x
        simp only [Nm.v] at h7 ⊢
        generalize xz.length = xn at *
        go_wp2_with fail
        refine h7.mono ?_
        rintro e w3 ⟨rfl, hb3⟩
        have B3 := (hb1.trans hb2).trans hb3
        go_wp2_with fail
        refine (H16.out w3 B3).mono ?_
        rintro e w4 ⟨rfl, rfl⟩
        go_wp2_with fail
        refine (H17.out w4 B3).mono ?_
        rintro e w5 ⟨rfl, hb5⟩
        go_wp2
        go_ret
        exact ⟨rfl, B3.trans hb5.ext⟩
      | false =>
        rw [hf] at h13 H17
        clear hf hle hpos
        go_enter Try.func7, Try.ntmps7
        go_wp2_with fail
        refine h13.mono ?_
        rintro e w1 ⟨rfl, hb1⟩
        go_wp2_with fail
        refine (H15.out w1 hb1).mono ?_
        rintro e w2 ⟨⟨x, rfl, hx, hnx⟩, hb2⟩
        have h7 := HS.out x w2 hx hnx
        clear hx hnx
        obtain ⟨xa, xc, xz⟩ := x
        simp only [Nm.v] at h7 ⊢
        generalize xz.length = xn at *
        go_wp2_with fail
        refine h7.mono ?_
        rintro e w3 ⟨rfl, hb3⟩
        have B3 := (hb1.trans hb2).trans hb3
        go_wp2_with fail
        refine (H16.out w3 B3).mono ?_
        rintro e w4 ⟨rfl, rfl⟩
        go_wp2_with fail
        refine (H17.out w4 B3).mono ?_
        rintro e w5 ⟨rfl, hb5⟩
        go_wp2
        go_ret
        exact ⟨rfl, B3.trans hb5.ext⟩
    · have hp := hpos.out hn
      have HP : Hid (0 < K) := hp
      have hn' : ((n : Int) == 0) = false := by simp; omega
      clear hpos hp
      cases hf : free g with
      | true =>
        have hK := hle.out hf
        have hKz : (K : Int) ≤ 256 := by omega
        rw [hf] at h13 H17
        clear hf hle hK hn
        go_enter Try.func7, Try.ntmps7
        go_wp2_with fail
        refine h13.mono ?_
        rintro e w1 ⟨rfl, hb1⟩
        go_wp2_with fail
        refine (H15.out w1 hb1).mono ?_
        rintro e w2 ⟨⟨x, rfl, hx, hnx⟩, hb2⟩
        have h7 := HS.out x w2 hx hnx
        clear hx hnx
        obtain ⟨xa, xc, xz⟩ := x
        simp only [Nm.v] at h7 ⊢
        generalize xz.length = xn at *
        go_wp2_with fail
        refine h7.mono ?_
        rintro e w3 ⟨rfl, hb3⟩
        have B3 := (hb1.trans hb2).trans hb3
        go_wp2_with fail
        refine (H16.out w3 B3).mono ?_
        rintro e w4 ⟨rfl, rfl⟩
        go_wp2_with fail
        refine (H17.out w4 B3).mono ?_
        rintro e w5 ⟨rfl, hb5⟩
        go_wp2
        go_ret
        exact ⟨ret_bool (decide_eq_true HP.out), B3.trans hb5.ext⟩
      | false =>
        rw [hf] at h13 H17
        clear hf hle hn
        go_enter Try.func7, Try.ntmps7
        go_wp2_with fail
        refine h13.mono ?_
        rintro e w1 ⟨rfl, hb1⟩
        go_wp2_with fail
        refine (H15.out w1 hb1).mono ?_
        rintro e w2 ⟨⟨x, rfl, hx, hnx⟩, hb2⟩
        have h7 := HS.out x w2 hx hnx
        clear hx hnx
        obtain ⟨xa, xc, xz⟩ := x
        simp only [Nm.v] at h7 ⊢
        generalize xz.length = xn at *
        go_wp2_with fail
        refine h7.mono ?_
        rintro e w3 ⟨rfl, hb3⟩
        have B3 := (hb1.trans hb2).trans hb3
        go_wp2_with fail
        refine (H16.out w3 B3).mono ?_
        rintro e w4 ⟨rfl, rfl⟩
        go_wp2_with fail
        refine (H17.out w4 B3).mono ?_
        rintro e w5 ⟨rfl, hb5⟩
        go_wp2
        go_ret
        exact ⟨ret_bool (decide_eq_true HP.out), B3.trans hb5.ext⟩
  · have he0 : (erl g == 0) = false := by simpa using he
    have he1 : (erl g != 0) = true := by simpa using he
    rw [he0] at h13 H16
    clear he H17 he0
    generalize erl g = r at *
    generalize g.length = n at *
    go_enter Try.func7, Try.ntmps7
    go_wp2_with fail
    refine h13.mono ?_
    rintro e w1 ⟨rfl, hb1⟩
    go_wp2_with fail
    refine (H15.out w1 hb1).mono ?_
    rintro e w2 ⟨⟨x, rfl, -, hnx⟩, hb2⟩
    have h7 := H7.out x w2 hnx
    clear hnx
    generalize (if lerl x.z = 0 then (ksum x.z : Int) else 0) = q3 at *
    generalize lerl x.z = q1 at *
    obtain ⟨xa, xc, xz⟩ := x
    simp only [Nm.v] at h7 ⊢
    generalize xz.length = xn at *
    go_wp2_with fail
    refine h7.mono ?_
    rintro e w3 ⟨rfl, hb3⟩
    have B3 := (hb1.trans hb2).trans hb3
    go_wp2_with fail
    refine (H16.out w3 B3).mono ?_
    rintro e w4 ⟨rfl, rfl⟩
    go_wp2
    go_ret
    exact ⟨rfl, B3⟩

set_option maxRecDepth 100000 in
theorem kraftAny_lifted (os : Os) (started : os.Started) (H : Type) (enc : TypeId × Value → H) :
    ReturnsInHanded {} Try.checked os 7 .any (Rows.kraftAnySpec.pre6 enc Try.prog Try.f7 Rows.kraftAnyRow.domain false) (Rows.kraftAnySpec.post enc Try.prog Try.f7 false true false false) := by
  refine returnsInHanded_of_change_sized (C := Try.checked) own started (by kernel_rfl) Try.func7
    (ChangeSpec.witness6 (enc := enc) (C := Try.checked) false ⟨#[], #[.slice none 0 0], []⟩ 8 (by kernel_rfl) (by kernel_rfl) (by kernel_rfl) (by kernel_rfl)) ?_
  intro W base args ds gs before hval0 hW _ hsz0 _
  have hval : ∀ (j : Nat) t v, Try.f7.params[j]? = some t → args[j]? = some v → Value.okWide Try.prog W .any base t v := hval0
  have hW' := hW
  obtain ⟨p, q, hA0, hV, rfl, hfz, hnd⟩ := hW
  have hA : DataW.TrodAll enc Try.prog W 0 (fun _ => true) true Try.f7.params.toList args.toList ds p := hA0
  have hsz : (DataW.weightsEach Try.prog (Try.f7.params.toList ++ Rows.kraftAnySpec.plain.varTypes Try.prog) (ds ++ gs)).all (· ≤ reachBytes) = true := hsz0
  rw [Try.params7] at hA hval hsz
  obtain ⟨v0, vs0, d0, ds0, p0, q0, hargs, rfl, rfl, h0, r0⟩ := trodAll_cons hA
  obtain ⟨rfl, rfl, rfl⟩ := trodAll_nil r0
  obtain rfl : args = #[v0] := by cases args; simp_all
  obtain ⟨rfl, rfl⟩ := trodVars_none hV
  have lt0 : ∀ x ∈ p0, x.block < W.heap.size := by obtain ⟨m, hm⟩ := h0; exact DataW.trod_lt m _ _ _ hm
  obtain ⟨a0, c0, g0, rfl, w0, z0⟩ := open_code_sized (hval 0 22 v0 rfl rfl) h0
  have b0 : g0.length * 24 ≤ reachBytes := by
    rcases z0 with z | ⟨es, sp, rfl, hes⟩
    · rw [z]; simp [reachBytes]
    · have := sized_slice hsz (j := 0) (t := 22) (e := 29) rfl rfl Try.underlying22
      rw [bytes29] at this
      omega
  clear hA0 hval0
  refine (kraftAny_walk a0 c0 g0 W w0 (by unfold reachBytes at b0; omega)).mono fun e W' ⟨he, bel⟩ => ?_
  subst he
  exact ⟨_, rfl, _, _, _, [], _, [], hW', trodAll_mk1 (shut_bool Try.underlying4 _), (trodAll_cons_mk (Below.trod laidOut (by kernel_rfl) (of_decide_eq_true (by kernel_rfl)) h0 bel lt0) trodAll_mk0), rfl, bel.frame _, fun h => by cases h⟩

theorem kraftAny_holds : Rows.KraftAnySaid :=
  OpenClaim.holds_of_wide 7 Try.f7 rfl rfl rfl rfl rfl rfl rfl ⟨rfl, rfl, rfl, rfl, rfl⟩ rfl rfl rfl rfl rfl (by kernel_rfl) Try.func7 (by kernel_rfl)
    (of_decide_eq_true (by kernel_rfl)) (by unfold Func.isWrapper; rw [if_neg (of_decide_eq_false (by kernel_rfl))]; exact ⟨rfl, rfl⟩)
    (fun os started H enc _ => kraftAny_lifted os started H enc)

#print axioms kraftAny_holds

end Go.Proofs.Ytfelbgilhhmbnaa
