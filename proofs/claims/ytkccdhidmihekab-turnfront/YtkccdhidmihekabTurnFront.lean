/-
  For any text: of its places it comes again; and who comes twice in a row has the place 0: TurnFront returns true for every list of bytes, and changes nothing.
-/
import Derived.Test.YtkccdhidmihekabFr2
import Derived.Test.YtkccdhidmihekabEq
import Derived.Test.YtkccdhidmihekabOpen
namespace Go.Proofs.Ytkccdhidmihekab
open Go.ChangeShapes Go.WideShapes Go.ChangeAt Go.RowKit Go.Deep

theorem u8_ends : IntKind.u8.min = 0 ∧ IntKind.u8.max = 255 := by decide
theorem byt_in {l : List Int} (h : Byt l) : InB l := fun x hx => by
  have := h x hx
  simp only [Lit.wf, u8_ends, Bool.and_eq_true, decide_eq_true_eq] at this
  exact mem_a256.2 (by omega)

set_option maxHeartbeats 2000000 in
theorem turnFront_large (x : Wd) (w : World) (hx : Bits w x) (h : 64 < x.l.length) : Calls Try.prog 3 #[x.v] w fun e w' => e = .returned (.bool true) ∧ Ext w w' := by
  have hp := front_large x w hx h
  obtain ⟨a, c, l⟩ := x
  simp only [Wd.v] at *
  clear hx
  generalize l.length = n at *
  have hn : (n : Int) > 64 := by omega
  go_enter Try.func3, Try.ntmps3
  go_wp2_with fail
  refine hp.mono ?_
  rintro e w1 ⟨rfl, rfl⟩
  clear hp
  go_wp2
  go_ret
  exact ⟨rfl, Ext.refl _⟩

set_option maxHeartbeats 2000000 in
theorem turnFront_good (x : Wd) (w : World) (hx : Bits w x) (hb : InB x.l) (h : x.l.length ≤ 64) : Calls Try.prog 3 #[x.v] w fun e w' => e = .returned (.bool true) ∧ Ext w w' := by
  have hp := front_good x w hx hb h
  have HU : Hid (∀ (y : Nm) W, Nums W y → y.z = frs x.l → Calls Try.prog 5 #[y.v] W fun e w' => ∃ z : Wd, e = .returned (.tuple #[z.v, .int .i64 0]) ∧ z.l = x.l ∧ Bits w' z ∧ Ext W w') := by
    intro y W hy hyz
    have h5 := unfront_good y W hy (by rw [hyz, frs_length]; exact h) (by
      rw [hyz, List.any_eq_false]
      intro q hq
      have := frs_range hb q hq
      simp [outN]
      omega)
    rw [hyz, frs_length, rr_frs hb _ (Nat.le_refl _), List.reverse_reverse, List.take_length] at h5
    exact h5
  have HS : Hid (∀ (y z : Wd) W, Bits W y → Bits W z → y.l = z.l → Calls Try.prog 6 #[y.v, z.v] W fun e w' => e = .returned (.bool true) ∧ Qt W w') := fun y z W hy hz he => by
    have := bytes_any y z W hy hz
    rw [he, beq_self_eq_true] at this
    exact this
  have HX : Hid (Bits w x) := hx
  have HZ : Hid (∀ i, i + 1 < x.l.length → ((x.l.getD (i + 1) 0 == x.l.getD i 0) = ((frs x.l).getD (i + 1) 0 == 0))) := by
    intro i hi
    have := frs_zero hb hi
    rw [Bool.eq_iff_iff, beq_iff_eq, beq_iff_eq]
    exact this.symm
  obtain ⟨a, c, l⟩ := x
  obtain ⟨h1, h2, h0, b, o, h3, h4⟩ := hx
  have hfl := frs_length l
  simp only [Wd.v] at *
  unfold maxLen at h2
  obtain ⟨n, hn⟩ : ∃ n, l.length = n := ⟨_, rfl⟩
  have HN : Hid (l.length = n) := hn
  rw [hn] at h1 h h3 h4 hp hfl HZ ⊢

  clear hn h0 hb
  have H4 : Hid (∀ i, i < n → w.cell? ⟨b, o + i, none⟩ = some (.int .u8 (l.getD i 0))) := h4
  clear h4
  have hn : ¬ ((n : Int) > 64) := by omega
  generalize frs l = F at *
  go_enter Try.func3, Try.ntmps3
  go_wp2_with fail
  refine hp.mono ?_
  rintro e w1 ⟨y, rfl, hyl, hy, E1⟩
  have hu := HU.out y w1 hy hyl
  obtain ⟨ya, yc, yz⟩ := y
  simp only at hyl
  subst hyl
  simp only [Nm.v] at *
  have HY : Hid (Nums w1 ⟨ya, yc, yz⟩) := hy
  have HE1 : Hid (Ext w w1) := E1
  rw [hfl] at hu ⊢
  clear hp HU hy E1
  go_wp2_with fail
  refine hu.mono ?_
  rintro e w2 ⟨z, rfl, hzl, hz, E2⟩
  have HE2 : Hid (Ext w w2) := HE1.out.trans E2
  have HY2 : Hid (Nums w2 ⟨ya, yc, yz⟩) := HY.out.ext E2
  have hs := HS.out z ⟨a, c, l⟩ w2 hz (HX.out.ext HE2.out) hzl
  simp only at hs
  rw [HN.out] at hs
  clear hu HS HX HY HE1 E2 hz hzl
  go_wp2_with fail
  refine hs.mono ?_
  rintro e w3 ⟨rfl, hw3⟩
  have HE3 : Hid (Ext w w3) := HE2.out.trans hw3.ext
  have HY3 : Hid (Nums w3 ⟨ya, yc, yz⟩) := HY2.out.ext hw3.ext
  clear hs hw3 HE2 HY2
  obtain ⟨k1, k2, k0, b2, o2, k3, k4⟩ := HY3.out
  simp only at k1 k2 k3 k4
  rw [hfl] at k1 k3 k4
  unfold maxLen at k2
  have K4 : Hid (∀ i, i < n → w3.cell? ⟨b2, o2 + i, none⟩ = some (.int .i64 (yz.getD i 0))) := k4
  clear HY3 k0 k4
  go_wp2
  go_loopg [7] n (fun gg s wr => ∃ k : Nat, 1 ≤ k ∧ k ≤ n + 1 ∧ n - k ≤ gg ∧ s = .int .i64 k ∧ Aside (Qt w3 wr))
  case atStart => exact ⟨1, by omega, by omega, by omega, rfl, Qt.refl _⟩
  case round =>
    obtain ⟨k, hk1, hk, hgg, rfl, BW⟩ := hrel
    by_cases hlt : k < n
    · have hltz : (k : Int) < (n : Int) := by omega
      obtain rfl := h3 (by omega)
      obtain rfl := k3 (by omega)
      obtain ⟨i, rfl⟩ : ∃ i, k = i + 1 := ⟨k - 1, by omega⟩
      have e1 := BW.out.cell (HE3.out.cell (H4.out (i + 1) hlt))
      have e2 := BW.out.cell (HE3.out.cell (H4.out i (by omega)))
      have e3 := BW.out.cell (K4.out (i + 1) hlt)
      have hz := HZ.out i hlt
      generalize l.getD (i + 1) 0 = p at *
      generalize l.getD i 0 = q at *
      generalize yz.getD (i + 1) 0 = f at *
      have hi1 : ((i : Int) + 1) < (n : Int) := by omega
      have hi0 : (i : Int) < (n : Int) := by omega
      cases hf : (f == 0)
      all_goals
        rw [hf] at hz
        clear h3 k3
        go_wp2
        go_quiet (fail)
        go_wp2
        go_roundg (n - (i + 1 + 1))
        case measure => omega
        case rel => exact ⟨i + 1 + 1, by omega, by omega, by omega, by go_num, BW.out.drewN _⟩
    · go_wp2
      go_ret
      exact ⟨rfl, HE3.out.trans BW.out.ext⟩

theorem turnFront_walk (x : Wd) (w : World) (hx : Bits w x) (hb : Byt x.l) : Calls Try.prog 3 #[x.v] w fun e w' => e = .returned (.bool true) ∧ Ext w w' := by
  by_cases h : 64 < x.l.length
  · exact turnFront_large x w hx h
  · exact turnFront_good x w hx (byt_in hb) (by omega)

set_option maxRecDepth 100000 in
theorem turnFront_lifted (os : Os) (started : os.Started) (H : Type) (enc : TypeId × Value → H) :
    ReturnsInHanded {} Try.checked os 3 .any (Rows.turnFrontSpec.pre6 enc Try.prog Try.f3 Rows.turnFrontRow.domain false) (Rows.turnFrontSpec.post enc Try.prog Try.f3 false true false false) := by
  refine returnsInHanded_of_change (C := Try.checked) own started (by kernel_rfl) Try.func3
    (ChangeSpec.witness6 (enc := enc) (C := Try.checked) false ⟨#[], #[.slice none 0 0], []⟩ 8 (by kernel_rfl) (by kernel_rfl) (by kernel_rfl) (by kernel_rfl)) ?_
  intro W base args ds gs before hval0 hW _ _
  have hval : ∀ (j : Nat) t v, Try.f3.params[j]? = some t → args[j]? = some v → Value.okWide Try.prog W .any base t v := hval0
  have hW' := hW
  obtain ⟨p, q, hA0, hV, rfl, hfz, hnd⟩ := hW
  have hA : DataW.TrodAll enc Try.prog W 0 (fun _ => true) true Try.f3.params.toList args.toList ds p := hA0
  rw [Try.params3] at hA hval
  obtain ⟨v0, vs0, d0, ds0, p0, q0, hargs, rfl, rfl, h0, r0⟩ := trodAll_cons hA
  obtain ⟨rfl, rfl, rfl⟩ := trodAll_nil r0
  obtain rfl : args = #[v0] := by cases args; simp_all
  obtain ⟨rfl, rfl⟩ := trodVars_none hV
  have lt0 : ∀ x ∈ p0, x.block < W.heap.size := by obtain ⟨m, hm⟩ := h0; exact DataW.trod_lt m _ _ _ hm
  obtain ⟨x0, rfl, w0, y0, z0⟩ := open_word (hval 0 22 v0 rfl rfl) h0
  clear hA0 hval0
  refine (turnFront_walk x0 W w0 y0).mono fun e W' ⟨he, bel⟩ => ?_
  subst he
  exact ⟨_, rfl, _, _, _, [], _, [], hW', trodAll_mk1 (shut_bool Try.underlying4 _), (trodAll_cons_mk (Below.trod laidOut (by kernel_rfl) (of_decide_eq_true (by kernel_rfl)) h0 bel lt0) trodAll_mk0), rfl, bel.frame _, fun h => by cases h⟩

theorem turnFront_holds : Rows.TurnFrontSaid :=
  OpenClaim.holds_of_wide 3 Try.f3 rfl rfl rfl rfl rfl rfl rfl ⟨rfl, rfl, rfl, rfl, rfl⟩ rfl rfl rfl rfl rfl (by kernel_rfl) Try.func3 (by kernel_rfl)
    (of_decide_eq_true (by kernel_rfl)) (by unfold Func.isWrapper; rw [if_neg (of_decide_eq_false (by kernel_rfl))]; exact ⟨rfl, rfl⟩)
    (fun os started H enc _ => turnFront_lifted os started H enc)

#print axioms turnFront_holds

end Go.Proofs.Ytkccdhidmihekab
