/-
  For any weights and any code of which no word begins another one, it costs no less than is told, and the lengths that are told cost that and fit: HuffBest returns true for every list of weights and every list of lists of bits, and changes nothing.
-/
import Derived.Test.YtebghhpjpmekkaaOpn
import Derived.Test.YtebghhpjpmekkaaCs2
import Derived.Test.YtebghhpjpmekkaaLens
import Derived.Test.YtebghhpjpmekkaaRefPrefix
namespace Go.Proofs.Ytebghhpjpmekkaa
open Go.ChangeShapes Go.WideShapes Go.ChangeAt Go.RowKit Go.Deep
set_option linter.unusedVariables false

theorem best_eq {wt : Nat → Nat} {n : Nat} {l m : List Nat} (h : Best wt n l) (k : Best wt n m) (h8 : n ≤ 8) : tc wt (pr n l) = tc wt (pr n m) := by
  apply Nat.le_antisymm
  · exact h.lb _ (by rw [pr_fst]) (k.fine h8)
  · exact k.lb _ (by rw [pr_fst]) (h.fine h8)

theorem range_get (l : List Nat) (f : Nat → Nat) : (List.range l.length).map (fun i => f (l.getD i 0)) = l.map f := by
  apply List.ext_getElem?
  intro i
  rw [List.getElem?_map, List.getElem?_map]
  rcases Nat.lt_or_ge i l.length with h | h
  · rw [List.getElem?_range h, List.getElem?_eq_getElem h]
    simp [List.getD_eq_getElem?_getD, h]
  · rw [List.getElem?_eq_none (by simpa using h), List.getElem?_eq_none h]
    rfl

theorem pk_ksum (l : List Nat) : pk (pr l.length l) = ksum (lz l) := by
  have := range_get l (fun d => 2 ^ (8 - d))
  simp only [pk, pr, ksum, lz, List.map_map, Function.comp_def, shr, Int.toNat_natCast]
  rw [this]

theorem lerl_lz {l : List Nat} (h : l.length ≤ 8) (h' : ∀ i, l.getD i 0 ≤ 8) : lerl (lz l) = 0 := by
  apply lerl_ok
  · simpa [lz] using h
  · rw [List.any_eq_false]
    intro x hx
    obtain ⟨d, hd, rfl⟩ := List.mem_map.1 hx
    obtain ⟨i, hi, rfl⟩ := List.mem_iff_getElem.1 hd
    have := h' i
    rw [List.getD_eq_getElem?_getD, List.getElem?_eq_getElem hi] at this
    simp only [Option.getD_some] at this
    simp [outB]
    omega

/-- The lengths of a code's words. -/
def wl (g : List Wd) : List Nat := g.map fun x => x.l.length
theorem lensOf_wl (g : List Wd) : lensOf g = lz (wl g) := by simp [lensOf, lz, wl, Function.comp_def]

theorem erl_small {g : List Wd} (h : erl g = 0) : g.length ≤ 8 ∧ ∀ i, (wl g).getD i 0 ≤ 8 := by
  have hc : large g = false := by
    unfold erl at h
    split at h
    · cases h
    · simpa using ‹¬ large g = true›
  simp only [large, Bool.or_eq_false_iff, decide_eq_false_iff_not, List.any_eq_false, decide_eq_true_eq] at hc
  refine ⟨by omega, fun i => ?_⟩
  rw [List.getD_eq_getElem?_getD, wl, List.getElem?_map]
  cases hq : g[i]? with
  | none => simp
  | some x => have := hc.2 x (List.mem_of_getElem? hq); simp; omega

theorem best_code {wt : Nat → Nat} {n : Nat} {l : List Nat} {g : List Wd} (h : Best wt n l) (he : erl g = 0) (hf : free g = true) (hg : g.length = n) : tc wt (pr n l) ≤ cs wt (wl g) n := by
  have hwl : (wl g).length = n := by simp [wl, hg]
  rw [← tc_pr]
  refine h.lb _ (by rw [pr_fst]) ⟨?_, ?_⟩
  · intro p hp
    obtain ⟨q, hq, rfl⟩ := List.mem_map.1 hp
    obtain ⟨i, _, rfl⟩ := List.mem_map.1 hq
    exact (erl_small he).2 i
  · rw [pk_wp, ← hwl, pk_ksum, ← lensOf_wl]
    exact kraft_le he hf

set_option maxHeartbeats 4000000 in
theorem huffBest_walk (x : Nm) (a1 : Option Addr) (c1 : Nat) (g : List Wd) (w : World) (hx : Nums w x) (hg : Wds w a1 c1 g) : Calls Try.prog 5 #[x.v, .slice a1 g.length c1] w fun e w' => e = .returned (.bool true) ∧ Ext w w' := by
  have HWD : Hid (∀ W, Ext w W → Calls Try.prog 15 #[x.v] W fun e w' => e = .returned (.bool (werl x.z == 0)) ∧ w' = W) := fun W e => weighed_any x W (hx.ext e)
  by_cases hok : werl x.z = 0
  · have HC := costG_any x w hx hok
    have HL : Hid (∀ W, Ext w W → Calls Try.prog 12 #[x.v] W fun e w' => ∃ (y : Nm) (l : List Nat), e = .returned (.tuple #[y.v, .int .i64 0]) ∧ y.z = lz l ∧ Nums w' y ∧ Ext W w' ∧ Best (wof x.z) x.z.length l) := fun W e => lensG_any x W (hx.ext e) hok
    have HCS : Hid (∀ W (y : Nm) (l : List Nat), Ext w W → Nums W y → y.z = lz l → (∀ i, l.getD i 0 ≤ 8) → l.length = x.z.length → Calls Try.prog 14 #[x.v, y.v] W fun e w' => e = .returned (.int .i64 (cs (wof x.z) l x.z.length : Nat)) ∧ Ext W w') := fun W y l e hy hyl h1 h2 => (costs_any x y W l (hx.ext e) hok hy hyl h1 h2).mono fun _ _ h => ⟨h.1, h.2.ext⟩
    have HSM : Hid (∀ W (y : Nm), Nums W y → Calls Try.prog 16 #[y.v] W fun e w' => e = .returned (.tuple #[.int .i64 (if lerl y.z = 0 then (ksum y.z : Int) else 0), .int .i64 (lerl y.z)]) ∧ Ext W w') := fun W y h => sum_any y W h
    have HCO : Hid (∀ W, Ext w W → Calls Try.prog 17 #[.slice a1 g.length c1] W fun e w' => e = .returned (.bool (erl g == 0)) ∧ w' = W) := fun W e => coded_any a1 c1 g W (hg.ext e)
    have HPF : Hid (∀ W, Ext w W → Calls Try.prog 18 #[.slice a1 g.length c1] W fun e w' => e = .returned (.bool (free g)) ∧ Qt W w') := fun W e => refPrefix_any a1 c1 g W (hg.ext e)
    have HLN : Hid (∀ W, Ext w W → g.length * 8 ≤ 140737488355328 → Calls Try.prog 19 #[.slice a1 g.length c1] W fun e w' => (∃ y : Nm, e = .returned y.v ∧ y.z = lensOf g ∧ Nums w' y) ∧ Ext W w') := fun W e h => lens_any a1 c1 g W (hg.ext e) h
    have h8 := (werl_nat hok).1
    have hBC : Hid (∀ l : List Nat, Best (wof x.z) x.z.length l → erl g = 0 → free g = true → g.length = x.z.length → tc (wof x.z) (pr x.z.length l) ≤ cs (wof x.z) (wl g) x.z.length) := fun l h1 h2 h3 h4 => best_code h1 h2 h3 h4
    have hES : Hid (erl g = 0 → ∀ i, (wl g).getD i 0 ≤ 8) := fun h => (erl_small h).2
    have hWL : Hid ((wl g).length = g.length) := by show _ = _; simp [wl]
    rw [hok] at HWD
    obtain ⟨a, c, z⟩ := x
    simp only [Nm.v] at *
    obtain ⟨n, hn⟩ : ∃ n, z.length = n := ⟨_, rfl⟩
    rw [hn] at HC HL HCS HWD hBC h8 ⊢
    obtain ⟨q, hq⟩ : ∃ q, g.length = q := ⟨_, rfl⟩
    rw [hq] at HCO HPF HLN hBC hWL ⊢
    clear hn hx hg hok hq
    go_enter Try.func5, Try.ntmps5
    go_wp2_with fail
    refine HC.mono ?_
    rintro e w1 ⟨l1, rfl, hE1, hB1⟩
    obtain ⟨C, hC⟩ : ∃ C, tc (wof z) (pr n l1) = C := ⟨_, rfl⟩
    rw [hC]
    have HC' : Hid (tc (wof z) (pr n l1) = C) := hC
    have HB1 : Hid (Best (wof z) n l1) := hB1
    have E1 : Hid (Ext w w1) := hE1
    clear hC hB1 hE1 HC
    go_wp2_with fail
    refine (HL.out w1 E1.out).mono ?_
    rintro e w2 ⟨y, l2, rfl, hyl, hy, hE2, hB2⟩
    have hll : y.z.length = n := by rw [hyl]; simp [lz, hB2.len]
    have hle := hB2.le h8
    have E2 : Hid (Ext w w2) := E1.out.trans hE2
    have hcs2 : cs (wof z) l2 n = C := by rw [← tc_pr, ← HC'.out]; exact best_eq hB2 HB1.out h8
    have HC2 : Hid (∀ W, Ext w2 W → Calls Try.prog 14 #[.slice a n c, y.v] W fun e w' => e = .returned (.int .i64 (C : Nat)) ∧ Ext W w') := by
      intro W hW
      have := HCS.out W y l2 (E2.out.trans hW) (hy.ext hW) hyl hle (by rw [hB2.len])
      rwa [hcs2] at this
    have hl0 : lerl y.z = 0 := by rw [hyl]; exact lerl_lz (by rw [hB2.len]; exact h8) hle
    have hks : ksum y.z ≤ 256 := by rw [hyl, ← pk_ksum, hB2.len]; exact hB2.kraft h8
    have HS2 : Hid (∀ W, Ext w2 W → Calls Try.prog 16 #[y.v] W fun e w' => e = .returned (.tuple #[.int .i64 (ksum y.z : Int), .int .i64 0]) ∧ Ext W w') := by
      intro W hW
      have := HSM.out W y (hy.ext hW)
      rw [hl0, if_pos rfl] at this
      exact this
    clear HSM HL hyl hy hE2 hB2 hle hcs2 hl0
    generalize ksum y.z = K at hks HS2
    obtain ⟨ya, yc, yz⟩ := y
    simp only [Nm.v] at hll HC2 HS2 ⊢
    rw [hll] at HC2 HS2 ⊢
    clear hll
    go_wp2_with fail
    refine (HWD.out w2 E2.out).mono ?_
    rintro e w3 ⟨rfl, rfl⟩
    go_wp2_with fail
    refine (HC2.out w3 (Ext.refl _)).mono ?_
    rintro e w4 ⟨rfl, hE4⟩
    go_wp2_with fail
    refine (HS2.out w4 hE4).mono ?_
    rintro e w5 ⟨rfl, hE5⟩
    have E5 : Hid (Ext w w5) := (E2.out.trans hE4).trans hE5
    have hkz : ¬ (256 : Int) < (K : Int) := by omega
    clear hE4 hE5 HC2 HS2 HWD
    go_wp2_with fail
    refine (HCO.out w5 E5.out).mono ?_
    rintro e w6 ⟨rfl, rfl⟩
    clear HCO
    cases he : (erl g == 0) with
    | false =>
      go_wp2
      go_ret
      exact ⟨rfl, E5.out⟩
    | true =>
      have he0 : erl g = 0 := by simpa using he
      have HE0 : Hid (erl g = 0) := he0
      clear he he0
      by_cases hqn : q = n
      · subst hqn
        go_wp2_with fail
        refine (HPF.out w6 E5.out).mono ?_
        rintro e w7 ⟨rfl, hQ7⟩
        have E7 : Hid (Ext w w7) := E5.out.trans hQ7.ext
        clear hQ7 HPF
        cases hf : free g with
        | false =>
          go_wp2
          go_ret
          exact ⟨rfl, E7.out⟩
        | true =>
          have HF : Hid (free g = true) := hf
          clear hf
          go_wp2_with fail
          refine (HLN.out w7 E7.out (by omega)).mono ?_
          rintro e w8 ⟨⟨y, rfl, hyl, hy⟩, hE8⟩
          rw [lensOf_wl] at hyl
          have E8 : Hid (Ext w w8) := E7.out.trans hE8
          have H13 := HCS.out w8 y (wl g) E8.out hy hyl (hES.out HE0.out) hWL.out
          have hle : C ≤ cs (wof z) (wl g) q := by rw [← HC'.out]; exact hBC.out l1 HB1.out HE0.out HF.out trivial
          clear HCS hyl hy hE8 hBC
          generalize cs (wof z) (wl g) q = D at *
          have hlez : (C : Int) ≤ (D : Int) := by omega
          obtain ⟨ya', yc', yz'⟩ := y
          simp only at H13 ⊢
          generalize yz'.length = m' at *
          go_wp2_with fail
          refine H13.mono ?_
          rintro e w9 ⟨rfl, hE9⟩
          go_wp2
          go_ret
          exact ⟨ret_bool (by simp), E8.out.trans hE9⟩
      · have hqz : ((q : Int) == (n : Int)) = false := by simp; omega
        have hqz2 : ¬ (q : Int) = (n : Int) := by omega
        go_wp2
        go_ret
        exact ⟨rfl, E5.out⟩
  · have HC := costB_any x w hx hok
    have HL : Hid (∀ W, Ext w W → Calls Try.prog 12 #[x.v] W fun e w' => e = .returned (.tuple #[.slice none 0 0, .int .i64 (werl x.z)]) ∧ Ext W w') := fun W e => lensB_any x W (hx.ext e) hok
    have hr : (werl x.z == 0) = false := by simpa using hok
    clear hx hg
    obtain ⟨a, c, z⟩ := x
    simp only [Nm.v] at *
    generalize werl z = r at *
    generalize z.length = n at *
    generalize g.length = q at *
    go_enter Try.func5, Try.ntmps5
    go_wp2_with fail
    refine HC.mono ?_
    rintro e w1 ⟨rfl, hb⟩
    go_wp2_with fail
    refine (HL.out w1 hb).mono ?_
    rintro e w2 ⟨rfl, hb2⟩
    go_wp2_with fail
    refine (HWD.out w2 (hb.trans hb2)).mono ?_
    rintro e w3 ⟨rfl, rfl⟩
    go_wp2
    go_ret
    exact ⟨ret_bool (by simp [bne, hr]), hb.trans hb2⟩

set_option maxRecDepth 100000 in
theorem huffBest_lifted (os : Os) (started : os.Started) (H : Type) (enc : TypeId × Value → H) :
    ReturnsInHanded {} Try.checked os 5 .any (Rows.huffBestSpec.pre6 enc Try.prog Try.f5 Rows.huffBestRow.domain false) (Rows.huffBestSpec.post enc Try.prog Try.f5 false true false false) := by
  refine returnsInHanded_of_change (C := Try.checked) own started (by kernel_rfl) Try.func5
    (ChangeSpec.witness6 (enc := enc) (C := Try.checked) false ⟨#[], #[.slice none 0 0, .slice none 0 0], []⟩ 8 (by kernel_rfl) (by kernel_rfl) (by kernel_rfl) (by kernel_rfl)) ?_
  intro W base args ds gs before hval0 hW _ _
  have hval : ∀ (j : Nat) t v, Try.f5.params[j]? = some t → args[j]? = some v → Value.okWide Try.prog W .any base t v := hval0
  have hW' := hW
  obtain ⟨p, q, hA0, hV, rfl, hfz, hnd⟩ := hW
  have hA : DataW.TrodAll enc Try.prog W 0 (fun _ => true) true Try.f5.params.toList args.toList ds p := hA0
  rw [Try.params5] at hA hval
  obtain ⟨v0, vs0, d0, ds0, p0, q0, hargs, rfl, rfl, h0, r0⟩ := trodAll_cons hA
  obtain ⟨v1, vs1, d1, ds1, p1, q1, rfl, rfl, rfl, h1, r1⟩ := trodAll_cons r0
  obtain ⟨rfl, rfl, rfl⟩ := trodAll_nil r1
  obtain rfl : args = #[v0, v1] := by cases args; simp_all
  obtain ⟨rfl, rfl⟩ := trodVars_none hV
  have lt0 : ∀ x ∈ p0, x.block < W.heap.size := by obtain ⟨m, hm⟩ := h0; exact DataW.trod_lt m _ _ _ hm
  obtain ⟨x0, rfl, w0⟩ := open_wts (hval 0 22 v0 rfl rfl) h0
  have lt1 : ∀ x ∈ p1, x.block < W.heap.size := by obtain ⟨m, hm⟩ := h1; exact DataW.trod_lt m _ _ _ hm
  obtain ⟨a1, c1, g1, rfl, w1⟩ := open_code (hval 1 34 v1 rfl rfl) h1
  clear hA0 hval0
  refine (huffBest_walk x0 a1 c1 g1 W w0 w1).mono fun e W' ⟨he, bel⟩ => ?_
  subst he
  exact ⟨_, rfl, _, _, _, [], _, [], hW', trodAll_mk1 (shut_bool Try.underlying4 _), (trodAll_cons_mk (Below.trod laidOut (by kernel_rfl) (of_decide_eq_true (by kernel_rfl)) h0 bel lt0) (trodAll_cons_mk (Below.trod laidOut (by kernel_rfl) (of_decide_eq_true (by kernel_rfl)) h1 bel lt1) trodAll_mk0)), rfl, bel.frame _, fun h => by cases h⟩

theorem huffBest_holds : Rows.HuffBestSaid :=
  OpenClaim.holds_of_wide 5 Try.f5 rfl rfl rfl rfl rfl rfl rfl ⟨rfl, rfl, rfl, rfl, rfl⟩ rfl rfl rfl rfl rfl (by kernel_rfl) Try.func5 (by kernel_rfl)
    (of_decide_eq_true (by kernel_rfl)) (by unfold Func.isWrapper; rw [if_neg (of_decide_eq_false (by kernel_rfl))]; exact ⟨rfl, rfl⟩)
    (fun os started H enc _ => huffBest_lifted os started H enc)

#print axioms huffBest_holds

end Go.Proofs.Ytebghhpjpmekkaa
