/-
  For any code the program tells two texts that are alike, or that there are none: UniqueTwice returns true for every list of lists of bits, and changes nothing.
-/
import Derived.Test.YtlhkifbjbibfoaaOpen
import Derived.Test.YtlhkifbjbibfoaaUni
import Derived.Test.YtlhkifbjbibfoaaWrite2
namespace Go.Proofs.Ytlhkifbjbibfoaa
open Go.ChangeShapes Go.WideShapes Go.ChangeAt Go.RowKit Go.Deep
set_option linter.unusedVariables false

theorem written_wrt (g : List Wd) (z : List Int) : written g z = wrt (wl g) z := by
  unfold written wrt
  congr 1
  funext s
  simp only [List.getD_eq_getElem?_getD, List.getElem?_map]
  cases g[s.toNat]? <;> rfl

set_option maxHeartbeats 2000000 in
theorem uniqueTwice_walk (a : Option Addr) (c : Nat) (g : List Wd) (w : World) (hg : Wds w a c g) :
    Calls Try.prog 4 #[.slice a g.length c] w fun e w' => e = .returned (.bool true) ∧ Ext w w' := by
  have HG : Hid (Wds w a c g) := hg
  have H9 : Hid (∀ W, Ext w W → Calls Try.prog 9 #[.slice a g.length c] W fun e w' => e = .returned (.int .i64 (erl g)) ∧ w' = W) := fun W e => codeCheck_any a c g W (hg.ext e)
  have hgc := hg.1
  have hgm := hg.2.1
  unfold maxLen at hgm
  rcases erl_two g with he | he
  · have h11 := twice_bad a c g w hg he
    rw [he] at H9
    clear hg he HG hgc
    generalize g.length = n at *
    go_enter Try.func4, Try.ntmps4
    go_wp2_with fail
    refine h11.mono ?_
    rintro e w1 ⟨rfl, hb1⟩
    go_wp2_with fail
    refine (H9.out w1 hb1).mono ?_
    rintro e w2 ⟨rfl, rfl⟩
    go_wp2
    go_ret
    exact ⟨rfl, hb1⟩
  · have hl := erl_zero he
    have HL : Hid (g.length ≤ 8 ∧ ∀ x ∈ g, x.l.length ≤ 8) := hl
    have h11 := twice_good a c g w hg he
    have H10 : Hid (∀ W, Ext w W → Calls Try.prog 10 #[.slice a g.length c] W fun e w' => e = .returned (.bool (uq g)) ∧ Ext W w') := fun W e => refUnique_any a c g W (hg.ext e) hl.1 hl.2
    have H14 : Hid (∀ (z : Nm) W, Ext w W → Nums W z → Valid (wl g).length z.z → z.z.length ≤ 600 → Calls Try.prog 14 #[.slice a g.length c, z.v] W fun e w' => (∃ x : Wd, e = .returned x.v ∧ x.l = wrt (wl g) z.z ∧ Bits w' x) ∧ Ext W w') := fun z W e hz hv hl' => by
      have hf : Fits g z.z := ⟨hl.2, by omega, fun s hs => by have := hv s hs; simpa using this⟩
      have := written_any a c g z W (HG.out.ext e) hz hf
      rw [written_wrt] at this
      exact this
    obtain ⟨n, hn⟩ : ∃ n, g.length = n := ⟨_, rfl⟩
    have HN : Hid ((wl g).length = n) := by show _ = _; rw [List.length_map]; exact hn
    rw [he] at H9
    rw [hn] at h11 H9 H10 H14 hgc ⊢
    clear hg he hl hn
    go_enter Try.func4, Try.ntmps4
    go_wp2_with fail
    refine h11.mono ?_
    rintro e w1 ⟨hb1, x, y, hx, hy, ⟨rfl, hu, hx0, hy0⟩ | ⟨rfl, hgood, hlen⟩⟩
    · have h10 := H10.out w1 hb1
      rw [uq_true hu] at h10
      clear hu hx hy H14 H10
      obtain ⟨xa, xc, xz⟩ := x
      obtain ⟨ya, yc, yz⟩ := y
      simp only at hx0 hy0
      subst hx0 hy0
      simp only [Nm.v, List.length_nil]
      go_wp2_with fail
      refine (H9.out w1 hb1).mono ?_
      rintro e w2 ⟨rfl, rfl⟩
      go_wp2_with fail
      refine h10.mono ?_
      rintro e w3 ⟨rfl, hb3⟩
      go_wp2
      go_ret
      exact ⟨rfl, hb1.trans hb3⟩
    · have h10 := H10.out w1 hb1
      rw [uq_false hgood.not] at h10
      have HGD : Hid (Good (wl g) x.z y.z []) := hgood
      have HLEN : Hid (x.z.length + y.z.length ≤ 600) := hlen
      have HX : Hid (Nums w1 x) := hx
      have HY : Hid (Nums w1 y) := hy
      clear hgood hlen hx hy H10
      obtain ⟨xa, xc, xz⟩ := x
      obtain ⟨ya, yc, yz⟩ := y
      simp only [Nm.v] at HGD HLEN ⊢
      obtain ⟨xn, hxn⟩ : ∃ xn, xz.length = xn := ⟨_, rfl⟩
      obtain ⟨yn, hyn⟩ : ∃ yn, yz.length = yn := ⟨_, rfl⟩
      have HXN : Hid (xz.length = xn) := hxn
      have HYN : Hid (yz.length = yn) := hyn
      rw [hxn, hyn]
      have hx6 : xn ≤ 600 := by have := HLEN.out; omega
      have hy6 : yn ≤ 600 := by have := HLEN.out; omega
      clear hxn hyn
      go_upto_region 3 with (go_at_call 9; refine (H9.out w1 hb1).mono ?_; rintro e w2 ⟨rfl, rfl⟩)
      go_upto_region 7 with (go_at_call 10; refine h10.mono ?_; rintro e w3 ⟨rfl, hb3⟩)
      have BX : Hid (Ext w w3) := hb1.trans hb3
      have HX3 : Hid (Nums w3 ⟨xa, xc, xz⟩) := HX.out.ext hb3
      have HY3 : Hid (Nums w3 ⟨ya, yc, yz⟩) := HY.out.ext hb3
      clear h10 h11 H9 HX HY hb1 hb3
      have row : (w3.alloc (.cells #[.slice xa xn xc, .slice ya yn yc] 28)).heap[w3.heap.size]? = some (.cells #[.slice xa xn xc, .slice ya yn yc] 28 (0, 0)) := heap_alloc_new _ _
      have c0 : (w3.alloc (.cells #[.slice xa xn xc, .slice ya yn yc] 28)).cell? ⟨w3.heap.size, 0, none⟩ = some (.slice xa xn xc) := by rw [cell_of_row _ _ _ _ 28 (0, 0) row]; rfl
      have c1 : (w3.alloc (.cells #[.slice xa xn xc, .slice ya yn yc] 28)).cell? ⟨w3.heap.size, 1, none⟩ = some (.slice ya yn yc) := by rw [cell_of_row _ _ _ _ 28 (0, 0) row]; rfl
      have EW : Hid (Ext w3 (w3.alloc (.cells #[.slice xa xn xc, .slice ya yn yc] 28))) := (Ext.refl _).alloc _
      have CS : Hid (∀ k, k < 2 → ∃ (ua : Option Addr) (un uc : Nat), (w3.alloc (.cells #[.slice xa xn xc, .slice ya yn yc] 28)).cell? ⟨w3.heap.size, k, none⟩ = some (.slice ua un uc) ∧ un ≤ 600 ∧ ∃ ub uo, (0 < un → ua = some ⟨ub, uo, none⟩) ∧ ∀ i, i < un → ∃ s : Int, (w3.alloc (.cells #[.slice xa xn xc, .slice ya yn yc] 28)).cell? ⟨ub, uo + i, none⟩ = some (.int .i64 s) ∧ 0 ≤ s ∧ s < (n : Int)) := by
        have one : ∀ (u : Nm) (un : Nat), u.z.length = un → un ≤ 600 → Nums w3 u → Valid (wl g).length u.z → ∃ (ub uo : Nat), (0 < un → u.a = some ⟨ub, uo, none⟩) ∧ ∀ i, i < un → ∃ s : Int, (w3.alloc (.cells #[.slice xa xn xc, .slice ya yn yc] 28)).cell? ⟨ub, uo + i, none⟩ = some (.int .i64 s) ∧ 0 ≤ s ∧ s < (n : Int) := by
          intro u un hun h6 hnu hvu
          obtain ⟨_, _, _, ub, uo, h1, h2⟩ := hnu.ext EW.out
          subst hun
          refine ⟨ub, uo, h1, fun i hi => ⟨u.z[i], ?_, ?_⟩⟩
          · rw [h2 i hi]
            simp [List.getD_eq_getElem?_getD, hi]
          · have := hvu _ (List.getElem_mem hi)
            rw [HN.out] at this
            exact this
        intro k hk
        by_cases h0 : k = 0
        · subst h0
          obtain ⟨ub, uo, h⟩ := one ⟨xa, xc, xz⟩ xn HXN.out hx6 HX3.out HGD.out.1
          exact ⟨xa, xn, xc, c0, hx6, ub, uo, h⟩
        · have h1 : k = 1 := by omega
          subst h1
          obtain ⟨ub, uo, h⟩ := one ⟨ya, yc, yz⟩ yn HYN.out hy6 HY3.out HGD.out.2.1
          exact ⟨ya, yn, yc, c1, hy6, ub, uo, h⟩
      clear row c0 c1
      go_wp2_with fail
      go_loopg [8, 10, 44, 50] 2 (fun gg _ _ s _ wr => wr = w3.alloc (.cells #[.slice xa xn xc, .slice ya yn yc] 28) ∧ ∃ k : Nat, k ≤ 2 ∧ 2 - k ≤ gg ∧ s = .int .i64 k)
      case atStart => exact ⟨rfl, 0, by omega, by omega, rfl⟩
      case round =>
        obtain ⟨rfl, k, hk, hgg, rfl⟩ := hrel
        by_cases hlt : k < 2
        · have hltz : (k : Int) < 2 := by omega
          obtain ⟨ua, un, uc, d0, hu6, ub', uo, hua, hus⟩ := CS.out k hlt
          have HUS : Hid (∀ i, i < un → ∃ s : Int, (w3.alloc (.cells #[.slice xa xn xc, .slice ya yn yc] 28)).cell? ⟨ub', uo + i, none⟩ = some (.int .i64 s) ∧ 0 ≤ s ∧ s < (n : Int)) := hus
          clear hus
          go_wp2_with fail
          go_loopg [10, 50] un (fun gg _ s wr => wr = w3.alloc (.cells #[.slice xa xn xc, .slice ya yn yc] 28) ∧ ∃ l : Nat, l ≤ un ∧ un - l ≤ gg ∧ s = .int .i64 l)
          case atStart => exact ⟨rfl, 0, by omega, by omega, rfl⟩
          case round =>
            obtain ⟨rfl, l, hl, hggl, rfl⟩ := hrel
            by_cases hll : l < un
            · have hllz : (l : Int) < (un : Int) := by omega
              obtain rfl := hua (by omega)
              obtain ⟨s, d1, s0, sn⟩ := HUS.out l hll
              have s0' : ¬ s < 0 := by omega
              have sn' : ¬ (n : Int) ≤ s := by omega
              go_wp2
              go_roundg (un - (l + 1))
              case measure => omega
              case rel => exact ⟨rfl, l + 1, by omega, by omega, by go_num⟩
            · go_wp2
              go_roundg (2 - (k + 1))
              case measure => omega
              case rel => exact ⟨rfl, k + 1, by omega, by omega, by go_num⟩
        · have h12 := ints_any ⟨xa, xc, xz⟩ ⟨ya, yc, yz⟩ (w3.alloc (.cells #[.slice xa xn xc, .slice ya yn yc] 28)) (HX3.out.ext EW.out) (HY3.out.ext EW.out)
          have hne : (xz == yz) = false := beq_eq_false_iff_ne.2 HGD.out.ne
          simp only [Nm.v] at h12
          rw [HXN.out, HYN.out, hne] at h12
          have C1 : Hid (∀ W, Ext w3 W → Calls Try.prog 14 #[.slice a n c, .slice xa xn xc] W fun e w' => (∃ x : Wd, e = .returned x.v ∧ x.l = wrt (wl g) xz ∧ Bits w' x) ∧ Ext W w') := fun W e => by
            have := H14.out ⟨xa, xc, xz⟩ W (BX.out.trans e) (HX3.out.ext e) HGD.out.1 (by have := HXN.out; simp only; omega)
            simp only [Nm.v] at this
            rw [HXN.out] at this
            exact this
          have C2 : Hid (∀ W, Ext w3 W → Calls Try.prog 14 #[.slice a n c, .slice ya yn yc] W fun e w' => (∃ x : Wd, e = .returned x.v ∧ x.l = wrt (wl g) yz ∧ Bits w' x) ∧ Ext W w') := fun W e => by
            have := H14.out ⟨ya, yc, yz⟩ W (BX.out.trans e) (HY3.out.ext e) HGD.out.2.1 (by have := HYN.out; simp only; omega)
            simp only [Nm.v] at this
            rw [HYN.out] at this
            exact this
          have hsame : Hid (wrt (wl g) xz = wrt (wl g) yz) := by
            show _ = _
            rw [HGD.out.2.2.1]
            simp
          clear hne CS H14
          go_wp2_with fail
          refine h12.mono ?_
          rintro e w4 ⟨rfl, hb4⟩
          have B4 := EW.out.trans hb4.ext
          go_wp2_with fail
          refine (C1.out w4 B4).mono ?_
          rintro e w5 ⟨⟨u, rfl, hu, hub⟩, hb5⟩
          have HU : Hid (u.l = wrt (wl g) xz ∧ Bits w5 u) := ⟨hu, hub⟩
          have B5 := B4.trans hb5
          clear hu hub
          obtain ⟨ua, uc, ul⟩ := u
          obtain ⟨un, hun⟩ : ∃ un, ul.length = un := ⟨_, rfl⟩
          have HUN : Hid (ul.length = un) := hun
          simp only [Wd.v, hun] at HU ⊢
          clear hun
          go_wp2_with fail
          refine (C2.out w5 B5).mono ?_
          rintro e w6 ⟨⟨v, rfl, hv, hvb⟩, hb6⟩
          have h13 := bools_any ⟨ua, uc, ul⟩ v w6 (HU.out.2.ext hb6) hvb
          have he' : (ul == v.l) = true := by
            rw [beq_iff_eq, hv, HU.out.1]
            exact hsame.out
          simp only at h13
          rw [he'] at h13
          have B6 := B5.trans hb6
          clear hv hvb he'
          obtain ⟨va, vc, vl⟩ := v
          simp only [Wd.v] at h13 ⊢
          rw [HUN.out] at h13
          generalize vl.length = vn at *
          go_wp2_with fail
          refine h13.mono ?_
          rintro e w7 ⟨rfl, hb7⟩
          go_wp2
          go_ret
          exact ⟨rfl, BX.out.trans (B6.trans hb7.ext)⟩

set_option maxRecDepth 100000 in
theorem uniqueTwice_lifted (os : Os) (started : os.Started) (H : Type) (enc : TypeId × Value → H) :
    ReturnsInHanded {} Try.checked os 4 .any (Rows.uniqueTwiceSpec.pre6 enc Try.prog Try.f4 Rows.uniqueTwiceRow.domain false) (Rows.uniqueTwiceSpec.post enc Try.prog Try.f4 false true false false) := by
  refine returnsInHanded_of_change (C := Try.checked) own started (by kernel_rfl) Try.func4
    (ChangeSpec.witness6 (enc := enc) (C := Try.checked) false ⟨#[], #[.slice none 0 0], []⟩ 8 (by kernel_rfl) (by kernel_rfl) (by kernel_rfl) (by kernel_rfl)) ?_
  intro W base args ds gs before hval0 hW _ _
  have hval : ∀ (j : Nat) t v, Try.f4.params[j]? = some t → args[j]? = some v → Value.okWide Try.prog W .any base t v := hval0
  have hW' := hW
  obtain ⟨p, q, hA0, hV, rfl, hfz, hnd⟩ := hW
  have hA : DataW.TrodAll enc Try.prog W 0 (fun _ => true) true Try.f4.params.toList args.toList ds p := hA0
  rw [Try.params4] at hA hval
  obtain ⟨v0, vs0, d0, ds0, p0, q0, hargs, rfl, rfl, h0, r0⟩ := trodAll_cons hA
  obtain ⟨rfl, rfl, rfl⟩ := trodAll_nil r0
  obtain rfl : args = #[v0] := by cases args; simp_all
  obtain ⟨rfl, rfl⟩ := trodVars_none hV
  have lt0 : ∀ x ∈ p0, x.block < W.heap.size := by obtain ⟨m, hm⟩ := h0; exact DataW.trod_lt m _ _ _ hm
  obtain ⟨a0, c0, g0, rfl, w0⟩ := open_code (hval 0 22 v0 rfl rfl) h0
  clear hA0 hval0
  refine (uniqueTwice_walk a0 c0 g0 W w0).mono fun e W' ⟨he, bel⟩ => ?_
  subst he
  exact ⟨_, rfl, _, _, _, [], _, [], hW', trodAll_mk1 (shut_bool Try.underlying4 _), (trodAll_cons_mk (Below.trod laidOut (by kernel_rfl) (of_decide_eq_true (by kernel_rfl)) h0 bel lt0) trodAll_mk0), rfl, bel.frame _, fun h => by cases h⟩

theorem uniqueTwice_holds : Rows.UniqueTwiceSaid :=
  OpenClaim.holds_of_wide 4 Try.f4 rfl rfl rfl rfl rfl rfl rfl ⟨rfl, rfl, rfl, rfl, rfl⟩ rfl rfl rfl rfl rfl (by kernel_rfl) Try.func4 (by kernel_rfl)
    (of_decide_eq_true (by kernel_rfl)) (by unfold Func.isWrapper; rw [if_neg (of_decide_eq_false (by kernel_rfl))]; exact ⟨rfl, rfl⟩)
    (fun os started H enc _ => uniqueTwice_lifted os started H enc)

#print axioms uniqueTwice_holds

end Go.Proofs.Ytlhkifbjbibfoaa
