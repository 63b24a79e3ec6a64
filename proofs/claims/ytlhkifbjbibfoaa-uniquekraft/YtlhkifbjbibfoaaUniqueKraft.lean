/-
  For any code of which no two texts are alike its lengths take no more room than there is: UniqueKraft returns true for every list of lists of bits, and changes nothing.
-/
import Derived.Test.YtlhkifbjbibfoaaOpen
import Derived.Test.YtlhkifbjbibfoaaUni
import Derived.Test.YtlhkifbjbibfoaaMill
namespace Go.Proofs.Ytlhkifbjbibfoaa
open Go.ChangeShapes Go.WideShapes Go.ChangeAt Go.RowKit Go.Deep
set_option linter.unusedVariables false

theorem lerl_bad {g : List Wd} (h : erl g = 1) : lerl (lensOf g) ≠ 0 := by
  intro h0
  rcases lerl_cases (lensOf g) with ⟨_, h1⟩ | ⟨_, _, h1⟩ | ⟨h1, h2, _⟩
  · rw [h1] at h0; cases h0
  · rw [h1] at h0; cases h0
  · have : erl g = 0 := erl_ok (by simpa [lensOf] using h1) (fun x hx => by
      have hm : ((x.l.length : Nat) : Int) ∈ lensOf g := List.mem_map.2 ⟨x, hx, rfl⟩
      have := List.any_eq_false.1 h2 _ hm
      obtain ⟨m, e, hm8⟩ := outB_no (Bool.eq_false_iff.2 this)
      omega)
    rw [this] at h
    cases h

theorem uniq_room {g : List Wd} (he : erl g = 0) (hu : Uniq (wl g)) : ksum (lensOf g) ≤ 256 := by
  rw [ksum_lens]
  exact mcmillan (fun w hw => by
    obtain ⟨x, hx, rfl⟩ := List.mem_map.1 hw
    exact (erl_zero he).2 x hx) hu

theorem uniq_none {g : List Wd} (h : g.length = 0) : uq g = true := by
  refine uq_true (fun a b ha hb _ => ?_)
  have e : (wl g).length = 0 := by rw [List.length_map]; exact h
  rw [e] at ha hb
  have nil : ∀ z : List Int, Valid 0 z → z = [] := fun z hz => by
    cases z with
    | nil => rfl
    | cons s z => have := (valid_cons.1 hz).1; omega
  rw [nil a ha, nil b hb]

set_option maxHeartbeats 1000000 in
theorem uniqueKraft_walk (a : Option Addr) (c : Nat) (g : List Wd) (w : World) (hg : Wds w a c g) (hsz : g.length * 8 ≤ 140737488355328) :
    Calls Try.prog 6 #[.slice a g.length c] w fun e w' => e = .returned (.bool true) ∧ Ext w w' := by
  have h8 := unique_any a c g w hg
  have H19 : Hid (∀ W, Ext w W → Calls Try.prog 19 #[.slice a g.length c] W fun e w' => (∃ x : Nm, e = .returned x.v ∧ x.z = lensOf g ∧ Nums w' x) ∧ Ext W w') := fun W e => lens_any a c g W (hg.ext e) hsz
  have H15 : Hid (∀ W, Ext w W → Calls Try.prog 15 #[.slice a g.length c] W fun e w' => e = .returned (.bool (erl g == 0)) ∧ w' = W) := fun W e => coded_any a c g W (hg.ext e)
  clear hg hsz
  have H18 : Hid (∀ (x : Nm) W, Nums W x → Calls Try.prog 18 #[x.v] W fun e w' => e = .returned (.tuple #[.int .i64 (if lerl x.z = 0 then (ksum x.z : Int) else 0), .int .i64 (lerl x.z)]) ∧ Ext W w') := fun x W h => sum_any x W h
  rcases erl_two g with he | he
  · have hu : ub g = false := by simp [ub, he]
    have hl := lerl_bad he
    have HS : Hid (∀ (x : Nm) W, x.z = lensOf g → Nums W x → Calls Try.prog 18 #[x.v] W fun e w' => e = .returned (.tuple #[.int .i64 0, .int .i64 (lerl (lensOf g))]) ∧ Ext W w') := fun x W hx h => by
      have := H18.out x W h
      rw [hx, if_neg hl] at this
      exact this
    have hlb : (lerl (lensOf g) != 0) = true := bne_iff_ne.2 hl
    rw [he] at h8 H15
    rw [hu] at h8
    clear he hu H18 hl
    generalize lerl (lensOf g) = L at *
    generalize lensOf g = ll at *
    generalize g.length = n at *
    go_enter Try.func6, Try.ntmps6
    go_wp2_with fail
    refine h8.mono ?_
    rintro e w1 ⟨rfl, hb1⟩
    go_wp2_with fail
    refine (H19.out w1 hb1).mono ?_
    rintro e w2 ⟨⟨x, rfl, hx, hnx⟩, hb2⟩
    have h18 := HS.out x w2 hx hnx
    clear hx hnx
    obtain ⟨xa, xc, xz⟩ := x
    simp only [Nm.v] at h18 ⊢
    generalize xz.length = xn at *
    go_wp2_with fail
    refine h18.mono ?_
    rintro e w3 ⟨rfl, hb3⟩
    have B3 := (hb1.trans hb2).trans hb3
    go_wp2_with fail
    refine (H15.out w3 B3).mono ?_
    rintro e w4 ⟨rfl, rfl⟩
    go_wp2
    go_ret
    exact ⟨rfl, B3⟩
  · have hu : ub g = uq g := by simp [ub, he]
    have hl0 : Hid (lerl (lensOf g) = 0) := lerl_lens he
    have HS : Hid (∀ (x : Nm) W, x.z = lensOf g → Nums W x → Calls Try.prog 18 #[x.v] W fun e w' => e = .returned (.tuple #[.int .i64 (ksum (lensOf g) : Int), .int .i64 0]) ∧ Ext W w') := fun x W hx h => by
      have := H18.out x W h
      rw [hx, hl0.out, if_pos rfl] at this
      exact this
    have hle : Hid (uq g = true → ksum (lensOf g) ≤ 256) := fun h => uniq_room he (uq_iff.1 h)
    have hno : Hid (g.length = 0 → uq g = true) := uniq_none
    rw [he] at h8 H15
    rw [hu] at h8
    clear he hu H18 hl0
    generalize ksum (lensOf g) = K at *
    generalize lensOf g = ll at *
    generalize g.length = n at *
    generalize uq g = r at *
    cases r
    · have hn0 : ¬ n = 0 := fun h => by have := hno.out h; cases this
      have hnz : (0 : Int) < (n : Int) := by omega
      clear hle hno
      go_enter Try.func6, Try.ntmps6
      go_wp2_with fail
      refine h8.mono ?_
      rintro e w1 ⟨rfl, hb1⟩
      go_wp2_with fail
      refine (H19.out w1 hb1).mono ?_
      rintro e w2 ⟨⟨x, rfl, hx, hnx⟩, hb2⟩
      have h18 := HS.out x w2 hx hnx
      clear hx hnx
      obtain ⟨xa, xc, xz⟩ := x
      simp only [Nm.v] at h18 ⊢
      generalize xz.length = xn at *
      go_wp2_with fail
      refine h18.mono ?_
      rintro e w3 ⟨rfl, hb3⟩
      have B3 := (hb1.trans hb2).trans hb3
      go_wp2_with fail
      refine (H15.out w3 B3).mono ?_
      rintro e w4 ⟨rfl, rfl⟩
      go_wp2
      go_ret
      exact ⟨rfl, B3⟩
    · have hK := hle.out rfl
      have hKz : (K : Int) ≤ 256 := by omega
      clear hle hno
      by_cases hn0 : n = 0
      · subst hn0
        go_enter Try.func6, Try.ntmps6
        go_wp2_with fail
        refine h8.mono ?_
        rintro e w1 ⟨rfl, hb1⟩
        go_wp2_with fail
        refine (H19.out w1 hb1).mono ?_
        rintro e w2 ⟨⟨x, rfl, hx, hnx⟩, hb2⟩
        have h18 := HS.out x w2 hx hnx
        clear hx hnx
        obtain ⟨xa, xc, xz⟩ := x
        simp only [Nm.v] at h18 ⊢
        generalize xz.length = xn at *
        go_wp2_with fail
        refine h18.mono ?_
        rintro e w3 ⟨rfl, hb3⟩
        have B3 := (hb1.trans hb2).trans hb3
        go_wp2_with fail
        refine (H15.out w3 B3).mono ?_
        rintro e w4 ⟨rfl, rfl⟩
        go_wp2
        go_ret
        exact ⟨rfl, B3⟩
      · have hnz : (0 : Int) < (n : Int) := by omega
        go_enter Try.func6, Try.ntmps6
        go_wp2_with fail
        refine h8.mono ?_
        rintro e w1 ⟨rfl, hb1⟩
        go_wp2_with fail
        refine (H19.out w1 hb1).mono ?_
        rintro e w2 ⟨⟨x, rfl, hx, hnx⟩, hb2⟩
        have h18 := HS.out x w2 hx hnx
        clear hx hnx
        obtain ⟨xa, xc, xz⟩ := x
        simp only [Nm.v] at h18 ⊢
        generalize xz.length = xn at *
        go_wp2_with fail
        refine h18.mono ?_
        rintro e w3 ⟨rfl, hb3⟩
        have B3 := (hb1.trans hb2).trans hb3
        go_wp2_with fail
        refine (H15.out w3 B3).mono ?_
        rintro e w4 ⟨rfl, rfl⟩
        go_wp2
        go_ret
        exact ⟨rfl, B3⟩

set_option maxRecDepth 100000 in
theorem uniqueKraft_lifted (os : Os) (started : os.Started) (H : Type) (enc : TypeId × Value → H) :
    ReturnsInHanded {} Try.checked os 6 .any (Rows.uniqueKraftSpec.pre6 enc Try.prog Try.f6 Rows.uniqueKraftRow.domain false) (Rows.uniqueKraftSpec.post enc Try.prog Try.f6 false true false false) := by
  refine returnsInHanded_of_change_sized (C := Try.checked) own started (by kernel_rfl) Try.func6
    (ChangeSpec.witness6 (enc := enc) (C := Try.checked) false ⟨#[], #[.slice none 0 0], []⟩ 8 (by kernel_rfl) (by kernel_rfl) (by kernel_rfl) (by kernel_rfl)) ?_
  intro W base args ds gs before hval0 hW _ hsz0 _
  have hval : ∀ (j : Nat) t v, Try.f6.params[j]? = some t → args[j]? = some v → Value.okWide Try.prog W .any base t v := hval0
  have hW' := hW
  obtain ⟨p, q, hA0, hV, rfl, hfz, hnd⟩ := hW
  have hA : DataW.TrodAll enc Try.prog W 0 (fun _ => true) true Try.f6.params.toList args.toList ds p := hA0
  have hsz : (DataW.weightsEach Try.prog (Try.f6.params.toList ++ Rows.uniqueKraftSpec.plain.varTypes Try.prog) (ds ++ gs)).all (· ≤ reachBytes) = true := hsz0
  rw [Try.params6] at hA hval hsz
  obtain ⟨v0, vs0, d0, ds0, p0, q0, hargs, rfl, rfl, h0, r0⟩ := trodAll_cons hA
  obtain ⟨rfl, rfl, rfl⟩ := trodAll_nil r0
  obtain rfl : args = #[v0] := by cases args; simp_all
  obtain ⟨rfl, rfl⟩ := trodVars_none hV
  have lt0 : ∀ x ∈ p0, x.block < W.heap.size := by obtain ⟨m, hm⟩ := h0; exact DataW.trod_lt m _ _ _ hm
  obtain ⟨a0, c0, g0, rfl, w0, z0⟩ := open_code_sized (hval 0 22 v0 rfl rfl) h0
  have b0 : g0.length * 24 ≤ reachBytes := by
    rcases z0 with z | ⟨es, sp, rfl, hes⟩
    · rw [z]; simp [reachBytes]
    · have := sized_slice hsz (j := 0) (t := 22) (e := 34) rfl rfl Try.underlying22
      rw [bytes34] at this
      omega
  clear hA0 hval0
  refine (uniqueKraft_walk a0 c0 g0 W w0 (by unfold reachBytes at b0; omega)).mono fun e W' ⟨he, bel⟩ => ?_
  subst he
  exact ⟨_, rfl, _, _, _, [], _, [], hW', trodAll_mk1 (shut_bool Try.underlying4 _), (trodAll_cons_mk (Below.trod laidOut (by kernel_rfl) (of_decide_eq_true (by kernel_rfl)) h0 bel lt0) trodAll_mk0), rfl, bel.frame _, fun h => by cases h⟩

theorem uniqueKraft_holds : Rows.UniqueKraftSaid :=
  OpenClaim.holds_of_wide 6 Try.f6 rfl rfl rfl rfl rfl rfl rfl ⟨rfl, rfl, rfl, rfl, rfl⟩ rfl rfl rfl rfl rfl (by kernel_rfl) Try.func6 (by kernel_rfl)
    (of_decide_eq_true (by kernel_rfl)) (by unfold Func.isWrapper; rw [if_neg (of_decide_eq_false (by kernel_rfl))]; exact ⟨rfl, rfl⟩)
    (fun os started H enc _ => uniqueKraft_lifted os started H enc)

#print axioms uniqueKraft_holds

end Go.Proofs.Ytlhkifbjbibfoaa
