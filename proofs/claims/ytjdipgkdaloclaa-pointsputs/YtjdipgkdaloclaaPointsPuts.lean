/-
  For any data the program tells what they are at so many numbers: PointsPuts returns true for every number of places and every list of numbers, and changes nothing.
-/
import Derived.Test.YtjdipgkdaloclaaOpen
import Derived.Test.YtjdipgkdaloclaaPu
import Derived.Test.YtjdipgkdaloclaaNum
import Derived.ProofKit
namespace Go.Proofs.Ytjdipgkdaloclaa
open Go.ChangeShapes Go.WideShapes Go.ChangeAt Go.RowKit Go.Deep
set_option linter.unusedVariables false

theorem puts_large (n : Int) (y : Nm) (h : n < 0 ∨ 9 < n) (w : World) (hy : Nums w y) : Calls Try.prog 3 #[.int .i64 n, y.v] w fun e w' => e = .returned (.bool true) ∧ Ext w w' := by
  have c1 := Put_bad n y 1 (by unfold pue; rw [pc_large h]; rfl) (by decide) w hy
  clear hy
  simp only [Nm.v] at *
  generalize y.z.length = m at *
  rcases h with h | h
  all_goals
    go_enter Try.func3, Try.ntmps3
    go_wp2_with fail
    refine c1.mono ?_
    rintro e w' ⟨rfl, hh⟩
    have hh := hh.symm
    subst hh
    clear c1
    go_wp2
    go_ret
    exact ⟨rfl, Ext.refl w⟩

theorem puts_form (n : Int) (y : Nm) (h : ¬ (n < 0 ∨ 9 < n)) (h2 : y.z.length = 0 ∨ n < y.z.length) (w : World) (hy : Nums w y) : Calls Try.prog 3 #[.int .i64 n, y.v] w fun e w' => e = .returned (.bool true) ∧ Ext w w' := by
  have c1 := Put_bad n y 3 (by unfold pue; rw [pc_form h (by omega)]; rfl) (by decide) w hy
  clear hy
  simp only [Nm.v] at *
  generalize y.z.length = m at *
  have h0 : 0 ≤ n := by omega
  have h9 : n ≤ 9 := by omega
  clear h
  rcases h2 with h | h
  · subst h
    go_enter Try.func3, Try.ntmps3
    go_wp2_with fail
    refine c1.mono ?_
    rintro e w' ⟨rfl, hh⟩
    have hh := hh.symm
    subst hh
    clear c1
    go_wp2
    go_ret
    exact ⟨rfl, Ext.refl w⟩
  · go_enter Try.func3, Try.ntmps3
    have hm : ((m : Int) == 0) = false := beq_eq_false_iff_ne.2 (by omega)
    go_wp2_with fail
    refine c1.mono ?_
    rintro e w' ⟨rfl, hh⟩
    have hh := hh.symm
    subst hh
    clear c1
    go_wp2
    go_ret
    exact ⟨rfl, Ext.refl w⟩

theorem puts_range (n : Int) (y : Nm) (h9 : n ≤ 9) (h1 : 1 ≤ y.z.length) (h2 : y.z.length ≤ n) (hf : fe y.z ≠ 0) (w : World) (hy : Nums w y) : Calls Try.prog 3 #[.int .i64 n, y.v] w fun e w' => e = .returned (.bool true) ∧ Ext w w' := by
  have hX : fe y.z = 4 := by rcases fe_or y.z with h | h; exact absurd h hf; exact h
  have c1 := Put_bad n y 4 (by unfold pue; rw [pc_good (by omega) (by omega) h9, if_pos rfl]; exact hX) (by decide) w hy
  have c2 := refCheck_any y w hy
  rw [hX] at c2
  clear hy hf hX
  simp only [Nm.v] at *
  generalize y.z.length = m at *
  have hm : ((m : Int) == 0) = false := beq_eq_false_iff_ne.2 (by omega)
  go_enter Try.func3, Try.ntmps3
  go_wp2_with fail
  refine c1.mono ?_
  rintro e w' ⟨rfl, hh⟩
  have hh := hh.symm
  subst hh
  clear c1
  go_wp2_with fail
  refine c2.mono ?_
  rintro e w' ⟨rfl, hh⟩
  have hh := hh.symm
  subst hh
  clear c2
  go_wp2
  go_ret
  exact ⟨rfl, Ext.refl w⟩

theorem puts_good (n : Nat) (d : List Nat) (hd : ∀ c ∈ d, c < 16) (h1 : 1 ≤ d.length) (h2 : d.length ≤ n) (h9 : n ≤ 9) (y : Nm) (hy : y.z = zl d) (w : World) (hw : Nums w y) : Calls Try.prog 3 #[.int .i64 n, y.v] w fun e w' => e = .returned (.bool true) ∧ Ext w w' := by
  have hlen : y.z.length = d.length := by rw [hy, zl_len]
  have c1 := Put_good n d hd h1 h2 h9 y hy w hw
  have c2 : Hid (∀ W, Ext w W → Calls Try.prog 8 #[.slice y.a d.length y.c] W fun e w' => e = .returned (.int .i64 0) ∧ w' = W) := fun W E => by
    have := refCheck_any y W (hw.ext E)
    rw [fe_good (by
      rw [hy]
      intro x hx
      obtain ⟨c, hc, rfl⟩ := List.mem_map.1 hx
      have := hd c hc
      omega), Nm.v, hlen] at this
    exact this
  have c3 : Hid (∀ W, Ext w W → Calls Try.prog 10 #[.int .i64 n, .slice y.a d.length y.c] W fun e w' => ∃ v, e = .returned v ∧ OwnN W w' v (zl (nl (ep d) n))) := fun W E => by
    have := values_any d hd n h9 y hy W (hw.ext E)
    rw [Nm.v, hlen] at this
    exact this
  have LZ : Hid ((zl (nl (ep d) n)).length = n) := by rw [Hid, zl_len, nl_len]
  have c4 : Hid (∀ (W : World) v, Row W w.heap.size 3 (nf (ep d) n) → OwnN w W v (zl (nl (ep d) n)) → Calls Try.prog 9 #[.slice (some ⟨w.heap.size, 0, none⟩) n n, v] W fun e w' => e = .returned (.bool true) ∧ Qt W w') := fun W v R O => by
    obtain ⟨m, rfl, hm, hn⟩ := O.nums
    have r2 := R.numsF (by unfold maxLen; omega)
    have := ints_any _ m W r2 hn
    simp only [Nm.v, hm, beq_self_eq_true, LZ.out] at this ⊢
    exact this
  have e1 : y.v = .slice y.a d.length y.c := by rw [Nm.v, hlen]
  rw [e1] at c1 ⊢
  clear e1 hw hy hd hlen
  generalize ep d = V at *
  generalize d.length = m at *
  have hm : ((m : Int) == 0) = false := beq_eq_false_iff_ne.2 (by omega)
  have h0 : ¬ (n : Int) < 0 := by omega
  go_enter Try.func3, Try.ntmps3
  go_wp2_with fail
  refine c1.mono ?_
  rintro e w1 ⟨rfl, E1, R1⟩
  have RR : Hid (∀ W, Ext w1 W → Row W w.heap.size 3 (nf V n)) := fun W E => R1.ext E
  have EE : Hid (Ext w w1) := E1
  have k2 := c2.out w1 E1
  have k3 := c3.out w1 E1
  clear c1 E1 R1 c2 c3
  go_wp2_with fail
  refine k2.mono ?_
  rintro e w2 ⟨rfl, hh⟩
  have hh := hh.symm
  subst hh
  clear k2
  go_wp2_with fail
  refine k3.mono ?_
  rintro e w3 ⟨v, rfl, O⟩
  clear k3
  have k4 := c4.out w3 v (RR.out w3 O.1) ⟨EE.out.trans O.1, by
    obtain ⟨o1, o2⟩ := O.2
    refine ⟨o1, ?_⟩
    rcases o2 with o2 | ⟨g, cap, cur, hv, hg, r⟩
    · exact Or.inl o2
    · exact Or.inr ⟨g, cap, cur, hv, Nat.le_trans EE.out.size hg, r⟩⟩
  have E3 : Hid (Ext w w3) := EE.out.trans O.1
  clear O c4 RR EE LZ
  go_wp2_with fail
  refine k4.mono ?_
  rintro e w4 ⟨rfl, q⟩
  clear k4
  have E4 : Hid (Ext w w4) := E3.out.trans q.ext
  clear q E3
  go_wp2
  go_ret
  exact ⟨rfl, E4.out⟩

theorem puts_walk (n : Int) (y : Nm) (w : World) (hy : Nums w y) : Calls Try.prog 3 #[.int .i64 n, y.v] w fun e w' => e = .returned (.bool true) ∧ Ext w w' := by
  by_cases hl : n < 0 ∨ 9 < n
  · exact puts_large n y hl w hy
  · by_cases h2 : y.z.length = 0 ∨ n < y.z.length
    · exact puts_form n y hl h2 w hy
    · by_cases hf : fe y.z = 0
      · obtain ⟨d, e, hd⟩ := zl_of (fe_zero hf)
        obtain ⟨m, rfl⟩ : ∃ m : Nat, n = m := ⟨n.toNat, by omega⟩
        have : d.length = y.z.length := by rw [e, zl_len]
        exact puts_good m d hd (by omega) (by omega) (by omega) y e w hy
      · exact puts_range n y (by omega) (by omega) (by omega) hf w hy

set_option maxRecDepth 100000 in
theorem pointsPuts_lifted (os : Os) (started : os.Started) (H : Type) (enc : TypeId × Value → H) :
    ReturnsInHanded {} Try.checked os 3 .any (Rows.pointsPutsSpec.pre6 enc Try.prog Try.f3 Rows.pointsPutsRow.domain false) (Rows.pointsPutsSpec.post enc Try.prog Try.f3 false true false false) := by
  refine returnsInHanded_of_change (C := Try.checked) own started (by kernel_rfl) Try.func3
    (ChangeSpec.witness6 (enc := enc) (C := Try.checked) false ⟨#[], #[.int .i64 0, .slice none 0 0], []⟩ 8 (by kernel_rfl) (by kernel_rfl) (by kernel_rfl) (by kernel_rfl)) ?_
  intro W base args ds gs before hval0 hW _ _
  have hval : ∀ (j : Nat) t v, Try.f3.params[j]? = some t → args[j]? = some v → Value.okWide Try.prog W .any base t v := hval0
  have hW' := hW
  obtain ⟨p, q, hA0, hV, rfl, hfz, hnd⟩ := hW
  have hA : DataW.TrodAll enc Try.prog W 0 (fun _ => true) true Try.f3.params.toList args.toList ds p := hA0
  rw [Try.params3] at hA hval
  obtain ⟨v0, vs0, d0, ds0, p0, q0, hargs, rfl, rfl, h0, r0⟩ := trodAll_cons hA
  obtain ⟨v1, vs1, d1, ds1, p1, q1, rfl, rfl, rfl, h1, r1⟩ := trodAll_cons r0
  obtain ⟨rfl, rfl, rfl⟩ := trodAll_nil r1
  obtain rfl : args = #[v0, v1] := by cases args; simp_all
  obtain ⟨rfl, rfl⟩ := trodVars_none hV
  have lt0 : ∀ x ∈ p0, x.block < W.heap.size := by obtain ⟨m, hm⟩ := h0; exact DataW.trod_lt m _ _ _ hm
  obtain ⟨x0, rfl, -, -, wf0⟩ := open_int Try.underlying3 (hval 0 3 v0 rfl rfl) h0
  have lt1 : ∀ x ∈ p1, x.block < W.heap.size := by obtain ⟨m, hm⟩ := h1; exact DataW.trod_lt m _ _ _ hm
  obtain ⟨x1, rfl, w1⟩ := open_syms (hval 1 22 v1 rfl rfl) h1
  clear hA0 hval0
  refine (puts_walk x0 x1 W w1).mono fun e W' ⟨he, bel⟩ => ?_
  subst he
  exact ⟨_, rfl, _, _, _, [], _, [], hW', trodAll_mk1 (shut_bool Try.underlying4 _), (trodAll_cons_mk (Below.trod laidOut (by kernel_rfl) (of_decide_eq_true (by kernel_rfl)) h0 bel lt0) (trodAll_cons_mk (Below.trod laidOut (by kernel_rfl) (of_decide_eq_true (by kernel_rfl)) h1 bel lt1) trodAll_mk0)), rfl, bel.frame _, fun h => by cases h⟩

theorem pointsPuts_holds : Rows.PointsPutsSaid :=
  OpenClaim.holds_of_wide 3 Try.f3 rfl rfl rfl rfl rfl rfl rfl ⟨rfl, rfl, rfl, rfl, rfl⟩ rfl rfl rfl rfl rfl (by kernel_rfl) Try.func3 (by kernel_rfl)
    (of_decide_eq_true (by kernel_rfl)) (by unfold Func.isWrapper; rw [if_neg (of_decide_eq_false (by kernel_rfl))]; exact ⟨rfl, rfl⟩)
    (fun os started H enc _ => pointsPuts_lifted os started H enc)

#print axioms pointsPuts_holds

end Go.Proofs.Ytjdipgkdaloclaa
