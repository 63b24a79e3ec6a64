/-
  For any weights, who weighs more has no longer word: HuffOrder returns true for every list of weights, and changes nothing.
-/
import Derived.Test.YtebghhpjpmekkaaOpn
import Derived.Test.YtebghhpjpmekkaaCst
import Derived.BigQuiet
namespace Go.Proofs.Ytebghhpjpmekkaa
open Go.ChangeShapes Go.WideShapes Go.ChangeAt Go.RowKit Go.Deep
set_option linter.unusedVariables false

theorem best_order {wt : Nat → Nat} {n : Nat} {l : List Nat} (h : Best wt n l) (h8 : n ≤ 8) (i j : Nat) (hi : i < n) (hj : j < n) (hw : wt j < wt i) : l.getD i 0 ≤ l.getD j 0 := by
  have hm : ∀ k, k < n → (wt k, l.getD k 0) ∈ wp wt (pr n l) := fun k hk => List.mem_map.2 ⟨(k, l.getD k 0), List.mem_map.2 ⟨k, by simpa using hk, rfl⟩, rfl⟩
  have hl : LB ((wp wt (pr n l)).map (·.1)) (pc (wp wt (pr n l))) := by rw [pr_fst]; exact h.lb
  exact lb_order (h.fine h8) hl (hm i hi) (hm j hj) hw

set_option maxHeartbeats 4000000 in
theorem huffOrder_walk (x : Nm) (w : World) (hx : Nums w x) : Calls Try.prog 6 #[x.v] w fun e w' => e = .returned (.bool true) ∧ Ext w w' := by
  have HWD : Hid (∀ W, Ext w W → Calls Try.prog 15 #[x.v] W fun e w' => e = .returned (.bool (werl x.z == 0)) ∧ w' = W) := fun W e => weighed_any x W (hx.ext e)
  by_cases hok : werl x.z = 0
  · have HL := lensG_any x w hx hok
    have h8 := (werl_nat hok).1
    have hWz := wof_z hok
    have HX : Hid (Nums w x) := hx
    rw [hok] at HWD
    obtain ⟨a, c, z⟩ := x
    simp only [Nm.v] at *
    obtain ⟨n, hn⟩ : ∃ n, z.length = n := ⟨_, rfl⟩
    have HN : Hid (z.length = n) := hn
    have HWZ : Hid (∀ i, z.getD i 0 = (wof z i : Int)) := hWz
    rw [hn] at HL HWD h8 ⊢
    clear hn hx hok hWz
    go_enter Try.func6, Try.ntmps6
    go_wp2_with fail
    refine HL.mono ?_
    rintro e w1 ⟨y, l, rfl, hyl, hy, hE, hB⟩
    obtain ⟨ya, yc, yz⟩ := y
    simp only at hyl hy ⊢
    subst hyl
    have hll : (lz l).length = n := by simp [lz, hB.len]
    rw [hll]
    have HB : Hid (Best (wof z) n l) := hB
    have NX : Hid (Nums w1 ⟨a, c, z⟩) := HX.out.ext hE
    have EE : Hid (Ext w w1) := hE
    obtain ⟨p1, p2, _, pb, po, p4, p5⟩ := hy
    obtain ⟨q1, q2, _, qb, qo, q4, q5⟩ := NX.out
    simp only at p1 p2 p4 p5 q1 q2 q4 q5
    rw [hll] at p1 p4 p5
    rw [HN.out] at q1 q4 q5
    have P5 : Hid (∀ i, i < n → w1.cell? ⟨pb, po + i, none⟩ = some (.int .i64 ((lz l).getD i 0))) := p5
    have Q5 : Hid (∀ i, i < n → w1.cell? ⟨qb, qo + i, none⟩ = some (.int .i64 (z.getD i 0))) := q5
    unfold maxLen at p2 q2
    clear HL hB hE hll p5 q5 HX NX
    go_wp2_with fail
    refine (HWD.out w1 EE.out).mono ?_
    rintro e w2 ⟨rfl, rfl⟩
    clear HWD
    go_wp2
    go_loopg [5, 6] n (fun gg s5 _ wr => ∃ k : Nat, k ≤ n ∧ n - k ≤ gg ∧ s5 = .int .i64 k ∧ Aside (Qt w2 wr))
    case atStart => exact ⟨0, by omega, by omega, rfl, Qt.refl w2⟩
    case round =>
      obtain ⟨k, hk, hgg, rfl, QW⟩ := hrel
      by_cases hlt : k < n
      · have hltz : (k : Int) < (n : Int) := by omega
        obtain rfl := p4 (by omega)
        obtain rfl := q4 (by omega)
        go_wp2
        go_loopg [6] n (fun gg s6 wi => ∃ j : Nat, j ≤ n ∧ n - j ≤ gg ∧ s6 = .int .i64 j ∧ Aside (Qt w2 wi))
        case atStart => exact ⟨0, by omega, by omega, rfl, QW.out⟩
        case round =>
          obtain ⟨j, hj, hgj, rfl, QI⟩ := hrel
          by_cases hjl : j < n
          · have hjlz : (j : Int) < (n : Int) := by omega
            have e1 := QI.out.cell (P5.out k hlt)
            have e2 := QI.out.cell (Q5.out k hlt)
            have e3 := QI.out.cell (P5.out j hjl)
            have e4 := QI.out.cell (Q5.out j hjl)
            rw [lz_z] at e1 e3
            rw [HWZ.out k] at e2
            rw [HWZ.out j] at e4
            have ho := best_order HB.out h8 k j hlt hjl
            generalize wof z k = u at e2 ho
            generalize wof z j = v at e4 ho
            generalize l.getD k 0 = d at e1 ho
            generalize l.getD j 0 = f at e3 ho
            by_cases huv : v < u
            · have huvz : (v : Int) < (u : Int) := by omega
              have hdf : ¬ (f : Int) < (d : Int) := by have := ho huv; omega
              clear ho
              go_wp2
              go_quiet (fail)
              go_wp2
              go_roundg (n - (j + 1))
              case measure => omega
              case rel => exact ⟨j + 1, by omega, by omega, by go_num, QI.out.trans ⟨_, rfl⟩⟩
            · have huvz : ¬ (v : Int) < (u : Int) := by omega
              clear ho
              go_wp2
              go_quiet (fail)
              go_wp2
              go_roundg (n - (j + 1))
              case measure => omega
              case rel => exact ⟨j + 1, by omega, by omega, by go_num, QI.out.trans ⟨_, rfl⟩⟩
          · go_wp2
            go_roundg (n - (k + 1))
            case measure => omega
            case rel => exact ⟨k + 1, by omega, by omega, by go_num, QI.out⟩
      · go_wp2
        go_ret
        exact ⟨rfl, EE.out.trans QW.out.ext⟩
  · have HL := lensB_any x w hx hok
    have hr : (werl x.z == 0) = false := by simpa using hok
    clear hx hok
    obtain ⟨a, c, z⟩ := x
    simp only [Nm.v] at *
    generalize werl z = r at *
    generalize z.length = n at *
    go_enter Try.func6, Try.ntmps6
    go_wp2_with fail
    refine HL.mono ?_
    rintro e w1 ⟨rfl, hb⟩
    go_wp2_with fail
    refine (HWD.out w1 hb).mono ?_
    rintro e w2 ⟨rfl, rfl⟩
    go_wp2
    go_ret
    exact ⟨ret_bool (by simp [bne, hr]), hb⟩

set_option maxRecDepth 100000 in
theorem huffOrder_lifted (os : Os) (started : os.Started) (H : Type) (enc : TypeId × Value → H) :
    ReturnsInHanded {} Try.checked os 6 .any (Rows.huffOrderSpec.pre6 enc Try.prog Try.f6 Rows.huffOrderRow.domain false) (Rows.huffOrderSpec.post enc Try.prog Try.f6 false true false false) := by
  refine returnsInHanded_of_change (C := Try.checked) own started (by kernel_rfl) Try.func6
    (ChangeSpec.witness6 (enc := enc) (C := Try.checked) false ⟨#[], #[.slice none 0 0], []⟩ 8 (by kernel_rfl) (by kernel_rfl) (by kernel_rfl) (by kernel_rfl)) ?_
  intro W base args ds gs before hval0 hW _ _
  have hval : ∀ (j : Nat) t v, Try.f6.params[j]? = some t → args[j]? = some v → Value.okWide Try.prog W .any base t v := hval0
  have hW' := hW
  obtain ⟨p, q, hA0, hV, rfl, hfz, hnd⟩ := hW
  have hA : DataW.TrodAll enc Try.prog W 0 (fun _ => true) true Try.f6.params.toList args.toList ds p := hA0
  rw [Try.params6] at hA hval
  obtain ⟨v0, vs0, d0, ds0, p0, q0, hargs, rfl, rfl, h0, r0⟩ := trodAll_cons hA
  obtain ⟨rfl, rfl, rfl⟩ := trodAll_nil r0
  obtain rfl : args = #[v0] := by cases args; simp_all
  obtain ⟨rfl, rfl⟩ := trodVars_none hV
  have lt0 : ∀ x ∈ p0, x.block < W.heap.size := by obtain ⟨m, hm⟩ := h0; exact DataW.trod_lt m _ _ _ hm
  obtain ⟨x0, rfl, w0⟩ := open_wts (hval 0 22 v0 rfl rfl) h0
  clear hA0 hval0
  refine (huffOrder_walk x0 W w0).mono fun e W' ⟨he, bel⟩ => ?_
  subst he
  exact ⟨_, rfl, _, _, _, [], _, [], hW', trodAll_mk1 (shut_bool Try.underlying4 _), (trodAll_cons_mk (Below.trod laidOut (by kernel_rfl) (of_decide_eq_true (by kernel_rfl)) h0 bel lt0) trodAll_mk0), rfl, bel.frame _, fun h => by cases h⟩

theorem huffOrder_holds : Rows.HuffOrderSaid :=
  OpenClaim.holds_of_wide 6 Try.f6 rfl rfl rfl rfl rfl rfl rfl ⟨rfl, rfl, rfl, rfl, rfl⟩ rfl rfl rfl rfl rfl (by kernel_rfl) Try.func6 (by kernel_rfl)
    (of_decide_eq_true (by kernel_rfl)) (by unfold Func.isWrapper; rw [if_neg (of_decide_eq_false (by kernel_rfl))]; exact ⟨rfl, rfl⟩)
    (fun os started H enc _ => huffOrder_lifted os started H enc)

#print axioms huffOrder_holds

end Go.Proofs.Ytebghhpjpmekkaa
