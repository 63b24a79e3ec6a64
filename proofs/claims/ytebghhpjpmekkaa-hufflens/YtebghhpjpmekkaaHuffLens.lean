/-
  For any weights the program tells lengths of words of a code that costs the least: HuffLens returns true for every list of weights, and changes nothing.
-/
import Derived.Test.YtebghhpjpmekkaaOpn
import Derived.Test.YtebghhpjpmekkaaHfm
import Derived.Test.YtebghhpjpmekkaaKrf
namespace Go.Proofs.Ytebghhpjpmekkaa
open Go.ChangeShapes Go.WideShapes Go.ChangeAt Go.RowKit Go.Deep
set_option linter.unusedVariables false

theorem range_get' (l : List Nat) (f : Nat → Nat) : (List.range l.length).map (fun i => f (l.getD i 0)) = l.map f := by
  apply List.ext_getElem?
  intro i
  rw [List.getElem?_map, List.getElem?_map]
  rcases Nat.lt_or_ge i l.length with h | h
  · rw [List.getElem?_range h, List.getElem?_eq_getElem h]
    simp [List.getD_eq_getElem?_getD, h]
  · rw [List.getElem?_eq_none (by simpa using h), List.getElem?_eq_none h]
    rfl

theorem pk_ksum' (l : List Nat) : pk (pr l.length l) = ksum (lz l) := by
  have := range_get' l (fun d => 2 ^ (8 - d))
  simp only [pk, pr, ksum, lz, List.map_map, Function.comp_def, shr, Int.toNat_natCast]
  rw [this]

theorem lerl_lz' {l : List Nat} (h : l.length ≤ 8) (h' : ∀ i, l.getD i 0 ≤ 8) : lerl (lz l) = 0 := by
  apply lerl_ok
  · simpa [lz] using h
  · rw [List.any_eq_false]
    intro x hx
    obtain ⟨d, hd, rfl⟩ := List.mem_map.1 hx
    obtain ⟨i, hi, rfl⟩ := List.mem_iff_getElem.1 hd
    have := h' i
    rw [List.getD_eq_getElem?_getD, List.getElem?_eq_getElem hi] at this
    simp only [Option.getD_some] at this
    simp [outB]
    omega

set_option maxHeartbeats 2000000 in
theorem huffLens_walk (x : Nm) (w : World) (hx : Nums w x) : Calls Try.prog 4 #[x.v] w fun e w' => e = .returned (.bool true) ∧ Ext w w' := by
  have HWC : Hid (∀ W, Ext w W → Calls Try.prog 10 #[x.v] W fun e w' => e = .returned (.int .i64 (werl x.z)) ∧ w' = W) := fun W e => weightsCheck_any x W (hx.ext e)
  by_cases hok : werl x.z = 0
  · have HL := lensG_any x w hx hok
    have h8 := (werl_nat hok).1
    have HH : Hid (∀ W, Ext w W → Calls Try.prog 11 #[x.v] W fun e w' => ∃ T : Nat → Nat, e = .returned (.int .i64 (T (2 ^ x.z.length - 1) : Nat)) ∧ (∀ s, s < 2 ^ x.z.length → TabAt (wof x.z) x.z.length T s) ∧ Ext W w') := fun W e => huffman_any x W (hx.ext e) hok
    have HCS : Hid (∀ W (y : Nm) (l : List Nat), Ext w W → Nums W y → y.z = lz l → (∀ i, l.getD i 0 ≤ 8) → l.length = x.z.length → Calls Try.prog 14 #[x.v, y.v] W fun e w' => e = .returned (.int .i64 (cs (wof x.z) l x.z.length : Nat)) ∧ Ext W w') := fun W y l e hy hyl h1 h2 => (costs_any x y W l (hx.ext e) hok hy hyl h1 h2).mono fun _ _ h => ⟨h.1, h.2.ext⟩
    rw [hok] at HWC
    obtain ⟨a, c, z⟩ := x
    simp only [Nm.v] at *
    clear hx hok
    obtain ⟨n, hn⟩ : ∃ n, z.length = n := ⟨_, rfl⟩
    rw [hn] at HL HH HCS HWC h8 ⊢
    clear hn
    go_enter Try.func4, Try.ntmps4
    go_wp2_with fail
    refine HL.mono ?_
    rintro e w1 ⟨y, l, rfl, hyl, hy, hE, hB⟩
    have hll : y.z.length = n := by rw [hyl]; simp [lz, hB.len]
    have hle := hB.le h8
    have hlt := hB.lt
    have E1 : Hid (Ext w w1) := hE
    obtain ⟨C, hC⟩ : ∃ C, cs (wof z) l n = C := ⟨_, rfl⟩
    have HC2 : Hid (∀ W, Ext w1 W → Calls Try.prog 14 #[.slice a n c, y.v] W fun e w' => e = .returned (.int .i64 (C : Nat)) ∧ Ext W w') := by
      intro W hW
      have := HCS.out W y l (E1.out.trans hW) (hy.ext hW) hyl hle (by rw [hB.len])
      rwa [hC] at this
    have HTC : Hid (∀ T : Nat → Nat, (∀ s, s < 2 ^ n → TabAt (wof z) n T s) → T (2 ^ n - 1) = C) := fun T hT => by rw [← hC, ← tc_pr]; exact tab_best h8 hT hB
    have hl0 : lerl y.z = 0 := by rw [hyl]; exact lerl_lz' (by rw [hB.len]; exact h8) hle
    have hks : ksum y.z ≤ 256 := by rw [hyl, ← pk_ksum', hB.len]; exact hB.kraft h8
    have HK : Hid (∀ W, Ext w1 W → Calls Try.prog 13 #[y.v] W fun e w' => e = .returned (.int .i64 (ksum y.z)) ∧ w' = W) := fun W hW => kraft_any y W (hy.ext hW) hl0
    have LT : Hid (∀ i, i < n → 0 ≤ (lz l).getD i 0 ∧ (lz l).getD i 0 ≤ n) := by
      intro i hi
      rw [lz_z]
      have hin : i < l.length := by rw [hB.len]; exact hi
      have := hlt _ (List.getElem_mem hin)
      rw [List.getD_eq_getElem?_getD, List.getElem?_eq_getElem hin]
      simp only [Option.getD_some]
      omega
    obtain ⟨p1, p2, _, pb, po, p4, p5⟩ := hy
    rw [hyl] at p5
    have hll2 : (lz l).length = n := by rw [← hyl]; exact hll
    rw [hll2] at p5
    have P5 : Hid (∀ i, i < n → w1.cell? ⟨pb, po + i, none⟩ = some (.int .i64 ((lz l).getD i 0))) := p5
    generalize ksum y.z = K at hks HK
    obtain ⟨ya, yc, yz⟩ := y
    simp only [Nm.v] at hll p1 p2 p4 HC2 HK ⊢
    rw [hll] at HC2 HK p1 p4 ⊢
    unfold maxLen at p2
    clear HL HCS hyl hE hB hle hlt hC hl0 hll hll2 p5
    have hkz : (K : Int) ≤ 256 := by omega
    go_wp2_with fail
    refine (HWC.out w1 E1.out).mono ?_
    rintro e w2 ⟨rfl, rfl⟩
    clear HWC
    go_wp2
    go_loopg [7, 36] n (fun gg _ s36 wr => wr = w2 ∧ ∃ k : Nat, k ≤ n ∧ n - k ≤ gg ∧ s36 = .int .i64 k)
    case atStart => exact ⟨rfl, 0, by omega, by omega, rfl⟩
    case round =>
      obtain ⟨rfl, k, hk, hgg, rfl⟩ := hrel
      by_cases hlt : k < n
      · have hltz : (k : Int) < (n : Int) := by omega
        obtain rfl := p4 (by omega)
        have e1 := P5.out k hlt
        obtain ⟨r1, r2⟩ := LT.out k hlt
        generalize (lz l).getD k 0 = d at e1 r1 r2
        have r1' : ¬ d < 0 := by omega
        have r2' : ¬ (n : Int) < d := by omega
        go_wp2
        go_roundg (n - (k + 1))
        case measure => omega
        case rel => exact ⟨rfl, k + 1, by omega, by omega, by go_num⟩
      · go_wp2_with fail
        refine (HK.out _ (Ext.refl _)).mono ?_
        rintro e w3 ⟨rfl, rfl⟩
        go_wp2_with fail
        refine (HC2.out _ (Ext.refl _)).mono ?_
        rintro e w4 ⟨rfl, hE4⟩
        have E4 : Hid (Ext w w4) := E1.out.trans hE4
        go_wp2_with fail
        refine (HH.out w4 E4.out).mono ?_
        rintro e w5 ⟨T, rfl, hT, hE5⟩
        rw [HTC.out T hT]
        have E5 : Hid (Ext w w5) := E4.out.trans hE5
        clear hT hE5 hE4
        go_wp2
        go_ret
        exact ⟨ret_bool (by simp), E5.out⟩
  · have HL := lensB_any x w hx hok
    have hr : (werl x.z == 0) = false := by simpa using hok
    clear hx hok
    obtain ⟨a, c, z⟩ := x
    simp only [Nm.v] at *
    generalize werl z = r at *
    generalize z.length = n at *
    go_enter Try.func4, Try.ntmps4
    go_wp2_with fail
    refine HL.mono ?_
    rintro e w1 ⟨rfl, hb⟩
    go_wp2_with fail
    refine (HWC.out w1 hb).mono ?_
    rintro e w2 ⟨rfl, rfl⟩
    go_wp2
    go_ret
    exact ⟨ret_bool (by simp), hb⟩

set_option maxRecDepth 100000 in
theorem huffLens_lifted (os : Os) (started : os.Started) (H : Type) (enc : TypeId × Value → H) :
    ReturnsInHanded {} Try.checked os 4 .any (Rows.huffLensSpec.pre6 enc Try.prog Try.f4 Rows.huffLensRow.domain false) (Rows.huffLensSpec.post enc Try.prog Try.f4 false true false false) := by
  refine returnsInHanded_of_change (C := Try.checked) own started (by kernel_rfl) Try.func4
    (ChangeSpec.witness6 (enc := enc) (C := Try.checked) false ⟨#[], #[.slice none 0 0], []⟩ 8 (by kernel_rfl) (by kernel_rfl) (by kernel_rfl) (by kernel_rfl)) ?_
  intro W base args ds gs before hval0 hW _ _
  have hval : ∀ (j : Nat) t v, Try.f4.params[j]? = some t → args[j]? = some v → Value.okWide Try.prog W .any base t v := hval0
  have hW' := hW
  obtain ⟨p, q, hA0, hV, rfl, hfz, hnd⟩ := hW
  have hA : DataW.TrodAll enc Try.prog W 0 (fun _ => true) true Try.f4.params.toList args.toList ds p := hA0
  rw [Try.params4] at hA hval
  obtain ⟨v0, vs0, d0, ds0, p0, q0, hargs, rfl, rfl, h0, r0⟩ := trodAll_cons hA
  obtain ⟨rfl, rfl, rfl⟩ := trodAll_nil r0
  obtain rfl : args = #[v0] := by cases args; simp_all
  obtain ⟨rfl, rfl⟩ := trodVars_none hV
  have lt0 : ∀ x ∈ p0, x.block < W.heap.size := by obtain ⟨m, hm⟩ := h0; exact DataW.trod_lt m _ _ _ hm
  obtain ⟨x0, rfl, w0⟩ := open_wts (hval 0 22 v0 rfl rfl) h0
  clear hA0 hval0
  refine (huffLens_walk x0 W w0).mono fun e W' ⟨he, bel⟩ => ?_
  subst he
  exact ⟨_, rfl, _, _, _, [], _, [], hW', trodAll_mk1 (shut_bool Try.underlying4 _), (trodAll_cons_mk (Below.trod laidOut (by kernel_rfl) (of_decide_eq_true (by kernel_rfl)) h0 bel lt0) trodAll_mk0), rfl, bel.frame _, fun h => by cases h⟩

theorem huffLens_holds : Rows.HuffLensSaid :=
  OpenClaim.holds_of_wide 4 Try.f4 rfl rfl rfl rfl rfl rfl rfl ⟨rfl, rfl, rfl, rfl, rfl⟩ rfl rfl rfl rfl rfl (by kernel_rfl) Try.func4 (by kernel_rfl)
    (of_decide_eq_true (by kernel_rfl)) (by unfold Func.isWrapper; rw [if_neg (of_decide_eq_false (by kernel_rfl))]; exact ⟨rfl, rfl⟩)
    (fun os started H enc _ => huffLens_lifted os started H enc)

#print axioms huffLens_holds

end Go.Proofs.Ytebghhpjpmekkaa
