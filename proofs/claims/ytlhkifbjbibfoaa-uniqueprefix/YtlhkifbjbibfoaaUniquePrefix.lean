/-
  For any code of which no word begins another one, and none is bare, no two texts are alike, nor are they if no word ends another one: UniquePrefix returns true for every list of lists of bits, and changes nothing.
-/
import Derived.Test.YtlhkifbjbibfoaaOpen
import Derived.Test.YtlhkifbjbibfoaaBack
namespace Go.Proofs.Ytlhkifbjbibfoaa
open Go.ChangeShapes Go.WideShapes Go.ChangeAt Go.RowKit Go.Deep
set_option linter.unusedVariables false

theorem OwnB.mono {w0 w w' : World} {v : Value} {l : List Bool} (h : OwnB w0 w v l) (e : Ext w w') : OwnB w0 w' v l := ⟨h.1.trans e, ownsRow_mono h.2 e⟩

theorem bits_one (W : World) (q : Bool) : Bits (W.alloc (.cells #[.bool q] 4)) ⟨some ⟨W.heap.size, 0, none⟩, 1, [q]⟩ := by
  refine ⟨by simp, by simp [maxLen], by simp, W.heap.size, 0, fun _ => rfl, fun i hi => ?_⟩
  have : i = 0 := by simpa using hi
  subst this
  rw [cell_of_row _ _ _ _ 4 (0, 0) (heap_alloc_new _ _)]
  rfl

theorem uq_free {g : List Wd} (hf : free g = true) (hb : bareB g = false) : uq g = true := by
  refine uq_true (uniq_free ?_ ?_)
  · intro i j hi hj hij
    simp only [List.length_map] at hi hj
    simp only [List.getElem_map]
    rcases Nat.lt_or_ge i j with h | h
    · have := free_at hf i j hi hj h
      simp only [clash, Bool.or_eq_false_iff] at this
      exact this.1
    · have := free_at hf j i hj hi (by omega)
      simp only [clash, Bool.or_eq_false_iff] at this
      exact this.2
  · intro i hi e
    simp only [List.length_map] at hi
    simp only [List.getElem_map] at e
    have := List.any_eq_false.1 hb g[i] (List.getElem_mem hi)
    simp [e] at this

theorem uq_bare {g : List Wd} (hb : bareB g = true) : uq g = false := by
  obtain ⟨x, hx, h⟩ := List.any_eq_true.1 hb
  obtain ⟨i, hi, rfl⟩ := List.mem_iff_getElem.1 hx
  refine uq_false (uniq_bare (i := i) (by simpa using hi) ?_)
  simp only [List.getElem_map]
  exact List.eq_nil_of_length_eq_zero (by simpa using h)

theorem uq_back {g X : List Wd} (h : X.map (·.l) = g.map (·.l.reverse)) : uq X = uq g := by
  have e : wl X = (wl g).map List.reverse := by
    show X.map (·.l) = _
    rw [h, List.map_map]
    rfl
  rw [Bool.eq_iff_iff, uq_iff, uq_iff, e]
  exact uniq_back_iff _

theorem bare_back {g X : List Wd} (h : X.map (·.l) = g.map (·.l.reverse)) : bareB X = bareB g := by
  have e1 : bareB X = (X.map (·.l)).any (fun l => l.length == 0) := by rw [List.any_map]; rfl
  have e2 : bareB g = (g.map (·.l.reverse)).any (fun l => l.length == 0) := by
    rw [List.any_map]
    unfold bareB
    congr 1
    funext x
    simp
  rw [e1, e2, h]

theorem erl_back {g X : List Wd} (h : X.map (·.l) = g.map (·.l.reverse)) (he : erl g = 0) : erl X = 0 := by
  have hl := erl_zero he
  have hlen : X.length = g.length := by simpa using congrArg List.length h
  refine erl_ok (by omega) (fun x hx => ?_)
  have : x.l ∈ g.map (·.l.reverse) := by rw [← h]; exact List.mem_map.2 ⟨x, hx, rfl⟩
  obtain ⟨y, hy, e⟩ := List.mem_map.1 this
  rw [← e]
  simpa using hl.2 y hy

set_option maxRecDepth 10000 in
set_option maxHeartbeats 4000000 in
theorem uniquePrefix_walk (a : Option Addr) (c : Nat) (g : List Wd) (w : World) (hg : Wds w a c g) :
    Calls Try.prog 5 #[.slice a g.length c] w fun e w' => e = .returned (.bool true) ∧ Ext w w' := by
  have HG : Hid (Wds w a c g) := hg
  have h8 := unique_any a c g w hg
  have H15 : Hid (∀ W, Ext w W → Calls Try.prog 15 #[.slice a g.length c] W fun e w' => e = .returned (.bool (erl g == 0)) ∧ w' = W) := fun W e => coded_any a c g W (hg.ext e)
  rcases erl_two g with he | he
  · have hu : ub g = false := by simp [ub, he]
    rw [he] at h8 H15
    rw [hu] at h8
    clear hg he hu HG
    generalize g.length = n at *
    go_enter Try.func5, Try.ntmps5
    go_wp2_with fail
    refine h8.mono ?_
    rintro e w1 ⟨rfl, hb1⟩
    go_wp2_with fail
    refine (H15.out w1 hb1).mono ?_
    rintro e w2 ⟨rfl, rfl⟩
    go_wp2
    go_ret
    exact ⟨rfl, hb1⟩
  · have hu : ub g = uq g := by simp [ub, he]
    have HL : Hid (g.length ≤ 8 ∧ ∀ x ∈ g, x.l.length ≤ 8) := erl_zero he
    have HE : Hid (erl g = 0) := he
    have H16 : Hid (∀ W, Ext w W → Calls Try.prog 16 #[.slice a g.length c] W fun e w' => e = .returned (.bool (bareB g)) ∧ w' = W) := fun W e => bare_any a c g W (HG.out.ext e)
    have H17 : Hid (∀ W, Ext w W → Calls Try.prog 17 #[.slice a g.length c] W fun e w' => e = .returned (.bool (free g)) ∧ Qt W w') := fun W e => refPrefix_any a c g W (HG.out.ext e)
    rw [he] at h8 H15
    rw [hu] at h8
    obtain ⟨h1, h2, _, b, o, h4, h5⟩ := hg
    unfold maxLen at h2
    obtain ⟨n, hn⟩ : ∃ n, g.length = n := ⟨_, rfl⟩
    have HN : Hid (g.length = n) := hn
    have H5 : Hid (∀ i (h : i < g.length), w.cell? ⟨b, o + i, none⟩ = some (g[i].v)) := h5
    have HB : Hid (∀ i (h : i < g.length), Bits w g[i]) := fun i h => HG.out.2.2.1 _ (List.getElem_mem h)
    obtain ⟨r, hr⟩ : ∃ r, uq g = r := ⟨_, rfl⟩
    have HR : Hid (uq g = r) := hr
    have hn8 := HL.out.1
    rw [hn] at h8 H15 H16 H17 h1 h4 hn8 ⊢
    rw [hr] at h8
    clear he hu hn h5 hr
    go_enter Try.func5, Try.ntmps5
    go_upto_region 2 with (go_at_call 8; refine h8.mono ?_; rintro e w1 ⟨rfl, hb1⟩)
    have E1 : Hid (Ext w w1) := hb1
    have h15 := H15.out w1 hb1
    clear h8 H15 hb1
    go_upto_region 6 with (go_at_call 15; refine h15.mono ?_; rintro e w2 ⟨rfl, rfl⟩)
    go_wp2_with fail
    go_loopg [5, 7, 8, 9, 26] n (fun gg v _ _ _ s wr => ∃ i : Nat, i ≤ n ∧ n - i ≤ gg ∧ s = .int .i64 i ∧ Aside (∃ X, OwnC w2 wr v X ∧ X.map (·.l) = (g.take i).map (·.l.reverse)))
    case atStart => exact ⟨0, Nat.zero_le _, by omega, rfl, [], OwnC.nil (Ext.refl _), rfl⟩
    case round =>
      obtain ⟨i, hi, hgg, rfl, A⟩ := hrel
      by_cases hlt : i < n
      · have hltz : (i : Int) < (n : Int) := by omega
        obtain rfl := h4 (by omega)
        have hil : i < g.length := by rw [HN.out]; exact hlt
        obtain ⟨X, hX, hXl⟩ := A.out
        have EW : Hid (Ext w wr) := E1.out.trans hX.ext
        have e1 := EW.out.cell (H5.out i hil)
        have hXn : X.length = i := by
          have := congrArg List.length hXl
          simp only [List.length_map, List.length_take] at this
          omega
        have HX : Hid (OwnC w2 wr u5 X) := hX
        have NX : Hid (X.map (·.l) ++ [g[i].l.reverse] = (g.take (i + 1)).map (·.l.reverse)) := by
          show _ = _
          rw [hXl, List.take_succ_eq_append_getElem hil, List.map_append]
          rfl
        have HBI := HB.out i hil
        have hx8 := HL.out.2 _ (List.getElem_mem hil)
        clear A hX hXl h4
        generalize g[i] = x at e1 NX HBI hx8
        obtain ⟨_, hxm, _, xb, xo, hxa, hxc⟩ := HBI
        obtain ⟨xa, xc, xl⟩ := x
        simp only [Wd.v] at e1 NX hxa hxc hx8
        obtain ⟨q, hq⟩ : ∃ q, xl.length = q := ⟨_, rfl⟩
        have HQ : Hid (xl.length = q) := hq
        have HXC : Hid (∀ k, (h : k < xl.length) → w.cell? ⟨xb, xo + k, none⟩ = some (.bool xl[k])) := fun k h => by
          have := hxc k h
          rw [this]
          simp [List.getD_eq_getElem?_getD, h]
        rw [hq] at e1 hxa hx8
        clear hq hxc hxm
        go_wp2_with fail
        obtain ⟨wo, rfl⟩ : ∃ wo, wo = wr := ⟨_, rfl⟩
        go_loopg [8, 9] q (fun gg v s wi => ∃ k : Nat, k ≤ q ∧ k ≤ gg ∧ s = .int .i64 ((k : Int) - 1) ∧ Aside (OwnB wo wi v ((xl.drop k).reverse)))
        case atStart => exact ⟨q, Nat.le_refl _, Nat.le_refl _, rfl, by rw [List.drop_eq_nil_of_le (by rw [HQ.out]; exact Nat.le_refl _)]; exact OwnB.nil (Ext.refl _)⟩
        case round =>
          obtain ⟨k, hk, hggk, rfl, A⟩ := hrel
          cases k with
          | zero =>
            obtain ⟨y, hy, hyl, hyb⟩ := A.out.lb
            have hE := A.out.1
            have YL : Hid (y.l = xl.reverse) := by show _ = _; rw [hyl, List.drop_zero]
            have YB : Hid (LB wr y) := hyb
            have HXi : Hid (OwnC w2 wr u5 X) := HX.out.mono hE
            have FIN : Hid (∀ v' W, OwnC w2 W v' (X ++ [y]) → ∃ X, OwnC w2 W v' X ∧ X.map (·.l) = (g.take (i + 1)).map (·.l.reverse)) := fun v' W h => ⟨_, h, by rw [List.map_append, ← NX.out]; simp [YL.out]⟩
            obtain ⟨yn, hyn⟩ : ∃ yn, y.l.length = yn := ⟨_, rfl⟩
            have YV : Hid (Value.slice y.a yn y.c = y.v) := by show _ = _; rw [Wd.v, hyn]
            have hyv : u8 = .slice y.a yn y.c := by rw [hy, ← YV.out]
            subst hyv
            clear A hE hyl hyb hyn hy
            go_wp2_with (at_builtin; refine wpList_appendC rfl _ _ rfl w2 wr _ (by rfl) X HXi.out y _ YV.out _ (by rfl) rfl YB.out (by omega) ?_; intro v' w4 B; have B2 := FIN.out v' w4 B; have B3 : Hid (∃ X, OwnC w2 w4 v' X ∧ X.map (·.l) = (g.take (i + 1)).map (·.l.reverse)) := B2; clear B B2)
            go_roundg (n - (i + 1))
            case measure => omega
            case rel => exact ⟨i + 1, by omega, by omega, by go_num, B3.out⟩
          | succ k =>
            have hkl : k < xl.length := by rw [HQ.out]; omega
            obtain rfl := hxa (by omega)
            have e2 := (EW.out.trans A.out.1).cell (HXC.out k hkl)
            have nx : Hid ((xl.drop k).reverse = (xl.drop (k + 1)).reverse ++ [xl[k]]) := back_take xl k hkl
            have hkz : ((k + 1 : Nat) : Int) - 1 = (k : Int) := by omega
            have hk0 : (0 : Int) ≤ (k : Int) := by omega
            have hkq : (k : Int) < (q : Int) := by omega
            have OB : Hid (∀ bq : Bool, OwnB wo (wr.alloc (.cells #[.bool bq] 4)) u8 ((xl.drop (k + 1)).reverse)) := fun bq => A.out.mono ((Ext.refl _).alloc _)
            have LE : Hid ((xl.drop (k + 1)).reverse.length + 1 ≤ 140737488355328) := by
              show _ ≤ _
              have := HQ.out
              simp only [List.length_reverse, List.length_drop]
              omega
            rw [hkz]
            generalize xl[k] = bq at e2 nx
            clear A
            go_wp2_with (at_builtin; refine wpList_appendBits rfl _ _ rfl wo _ _ (by rfl) _ (OB.out bq) ⟨some ⟨wr.heap.size, 0, none⟩, 1, [bq]⟩ (by rfl) (bits_one wr bq) LE.out ?_; intro v' w4 B; rw [← nx.out] at B)
            go_roundg k
            case measure => omega
            case rel => exact ⟨k, by omega, Nat.le_refl _, by go_num, B⟩
      · obtain ⟨X, hX, hXl⟩ := A.out
        rw [List.take_of_length_le (by rw [HN.out]; omega)] at hXl
        obtain ⟨va, vc, hv, hWX⟩ := hX.wds
        have hXn : X.length = n := by
          have := congrArg List.length hXl
          simp only [List.length_map] at this
          rw [this]
          exact HN.out
        have h8 := unique_any va vc X wr hWX
        have heX := erl_back hXl HE.out
        have hub : ub X = r := by
          rw [ub, heX, uq_back hXl, HR.out]
          simp
        rw [heX, hub, hXn] at h8
        have H17b : Hid (∀ W, Ext wr W → Calls Try.prog 17 #[.slice va n vc] W fun e w' => e = .returned (.bool (free X)) ∧ Qt W w') := fun W e => by
          have := refPrefix_any va vc X W (hWX.ext e)
          rw [hXn] at this
          exact this
        have T1 : Hid (bareB g = true → r = false) := fun h => by rw [← HR.out]; exact uq_bare h
        have T2 : Hid (bareB g = false → r = false → free g = false) := fun h hr => by
          cases hf : free g
          · rfl
          · have := uq_free hf h
            rw [HR.out, hr] at this
            cases this
        have T3 : Hid (bareB g = false → r = false → free X = false) := fun h hr => by
          cases hf : free X
          · rfl
          · have := uq_free hf ((bare_back hXl).trans h)
            rw [uq_back hXl, HR.out, hr] at this
            cases this
        have EW : Hid (Ext w wr) := E1.out.trans hX.ext
        rw [hXn] at hv
        subst hv
        clear A hX hXl hWX hXn heX hub HR HE
        generalize bareB g = bb at *
        generalize free g = f1 at *
        generalize free X = f2 at *
        cases bb
        · cases r
          · obtain rfl := T2.out rfl rfl
            obtain rfl := T3.out rfl rfl
            clear T1 T2 T3
            go_wp2_with fail
            refine h8.mono ?_
            rintro e w4 ⟨rfl, hb4⟩
            have B4 := EW.out.trans hb4
            have h16 := H16.out w4 B4
            have h17 := H17.out w4 B4
            go_wp2_with fail
            refine h16.mono ?_
            rintro e w5 ⟨rfl, hw5⟩
            obtain rfl := hw5.symm
            go_wp2_with fail
            refine h16.mono ?_
            rintro e w5 ⟨rfl, hw5⟩
            obtain rfl := hw5.symm
            go_wp2_with fail
            refine h17.mono ?_
            rintro e w6 ⟨rfl, hb6⟩
            go_wp2_with fail
            refine (H17b.out w6 (hb4.trans hb6.ext)).mono ?_
            rintro e w7 ⟨rfl, hb7⟩
            go_wp2
            go_ret
            exact ⟨rfl, (B4.trans hb6.ext).trans hb7.ext⟩
          · clear T1 T2 T3
            go_wp2_with fail
            refine h8.mono ?_
            rintro e w4 ⟨rfl, hb4⟩
            have B4 := EW.out.trans hb4
            have h16 := H16.out w4 B4
            go_wp2_with fail
            refine h16.mono ?_
            rintro e w5 ⟨rfl, hw5⟩
            obtain rfl := hw5.symm
            go_wp2_with fail
            refine h16.mono ?_
            rintro e w5 ⟨rfl, hw5⟩
            obtain rfl := hw5.symm
            go_wp2
            go_ret
            exact ⟨rfl, B4⟩
        · obtain rfl := T1.out rfl
          clear T1 T2 T3
          go_wp2_with fail
          refine h8.mono ?_
          rintro e w4 ⟨rfl, hb4⟩
          have B4 := EW.out.trans hb4
          have h16 := H16.out w4 B4
          go_wp2_with fail
          refine h16.mono ?_
          rintro e w5 ⟨rfl, hw5⟩
          obtain rfl := hw5.symm
          go_wp2
          go_ret
          exact ⟨rfl, B4⟩

set_option maxRecDepth 100000 in
theorem uniquePrefix_lifted (os : Os) (started : os.Started) (H : Type) (enc : TypeId × Value → H) :
    ReturnsInHanded {} Try.checked os 5 .any (Rows.uniquePrefixSpec.pre6 enc Try.prog Try.f5 Rows.uniquePrefixRow.domain false) (Rows.uniquePrefixSpec.post enc Try.prog Try.f5 false true false false) := by
  refine returnsInHanded_of_change (C := Try.checked) own started (by kernel_rfl) Try.func5
    (ChangeSpec.witness6 (enc := enc) (C := Try.checked) false ⟨#[], #[.slice none 0 0], []⟩ 8 (by kernel_rfl) (by kernel_rfl) (by kernel_rfl) (by kernel_rfl)) ?_
  intro W base args ds gs before hval0 hW _ _
  have hval : ∀ (j : Nat) t v, Try.f5.params[j]? = some t → args[j]? = some v → Value.okWide Try.prog W .any base t v := hval0
  have hW' := hW
  obtain ⟨p, q, hA0, hV, rfl, hfz, hnd⟩ := hW
  have hA : DataW.TrodAll enc Try.prog W 0 (fun _ => true) true Try.f5.params.toList args.toList ds p := hA0
  rw [Try.params5] at hA hval
  obtain ⟨v0, vs0, d0, ds0, p0, q0, hargs, rfl, rfl, h0, r0⟩ := trodAll_cons hA
  obtain ⟨rfl, rfl, rfl⟩ := trodAll_nil r0
  obtain rfl : args = #[v0] := by cases args; simp_all
  obtain ⟨rfl, rfl⟩ := trodVars_none hV
  have lt0 : ∀ x ∈ p0, x.block < W.heap.size := by obtain ⟨m, hm⟩ := h0; exact DataW.trod_lt m _ _ _ hm
  obtain ⟨a0, c0, g0, rfl, w0⟩ := open_code (hval 0 22 v0 rfl rfl) h0
  clear hA0 hval0
  refine (uniquePrefix_walk a0 c0 g0 W w0).mono fun e W' ⟨he, bel⟩ => ?_
  subst he
  exact ⟨_, rfl, _, _, _, [], _, [], hW', trodAll_mk1 (shut_bool Try.underlying4 _), (trodAll_cons_mk (Below.trod laidOut (by kernel_rfl) (of_decide_eq_true (by kernel_rfl)) h0 bel lt0) trodAll_mk0), rfl, bel.frame _, fun h => by cases h⟩

theorem uniquePrefix_holds : Rows.UniquePrefixSaid :=
  OpenClaim.holds_of_wide 5 Try.f5 rfl rfl rfl rfl rfl rfl rfl ⟨rfl, rfl, rfl, rfl, rfl⟩ rfl rfl rfl rfl rfl (by kernel_rfl) Try.func5 (by kernel_rfl)
    (of_decide_eq_true (by kernel_rfl)) (by unfold Func.isWrapper; rw [if_neg (of_decide_eq_false (by kernel_rfl))]; exact ⟨rfl, rfl⟩)
    (fun os started H enc _ => uniquePrefix_lifted os started H enc)

#print axioms uniquePrefix_holds

end Go.Proofs.Ytlhkifbjbibfoaa
