/-
  For any text: its phrases make it: PhraseBack returns true for every list of bytes, and changes nothing.
-/
import Derived.Test.YtjgheojfdkfmkaaOpen
import Derived.Test.YtjgheojfdkfmkaaEq
import Derived.Test.YtjgheojfdkfmkaaJn
namespace Go.Proofs.Ytjgheojfdkfmkaa
open Go.ChangeShapes Go.WideShapes Go.ChangeAt Go.RowKit Go.Deep

theorem phr_jer {l : List Int} (h : l.length ≤ 64) : jer (phr l) = 0 ∧ jtx (phr l) = l := by
  have h1 := phr_length l
  have := jer_good (g := phr l) (by omega) (phr_vd l) (by rw [joined_phr]; omega)
  rw [joined_phr] at this
  exact this

set_option maxHeartbeats 2000000 in
theorem phraseBack_walk (x : Wd) (w : World) (hx : Bits w x) (hb : Byt x.l) : Calls Try.prog 5 #[x.v] w fun e w' => e = .returned (.bool true) ∧ Ext w w' := by
  by_cases h : 64 < x.l.length
  · have hp := parse_large x w hx h
    obtain ⟨a, c, l⟩ := x
    simp only [Wd.v] at *
    clear hx hb
    generalize l.length = n at *
    have hn : (n : Int) > 64 := by omega
    go_enter Try.func5, Try.ntmps5
    go_wp2_with fail
    refine hp.mono ?_
    rintro e w1 ⟨rfl, rfl⟩
    clear hp
    go_wp2
    go_ret
    exact ⟨rfl, Ext.refl _⟩
  · have hp := parse_good x w hx hb (by omega)
    have HJ : Hid (∀ (y : Pm) W, Phs W y → y.g = phr x.l → Calls Try.prog 10 #[y.v] W fun e w' => Ext W w' ∧ ∃ z : Wd, Bits w' z ∧ z.l = x.l ∧ e = .returned (.tuple #[z.v, .int .i64 0])) := fun y W hy he => by
      have := join_any y W hy
      rw [he, (phr_jer (l := x.l) (by omega)).1, (phr_jer (l := x.l) (by omega)).2] at this
      exact this
    have HB : Hid (∀ (z : Wd) W, Bits W z → Ext w W → z.l = x.l → Calls Try.prog 12 #[z.v, x.v] W fun e w' => e = .returned (.bool true) ∧ Qt W w') := fun z W hz hW he => by
      have := bytes_any z x W hz (hx.ext hW)
      rw [he, beq_self_eq_true] at this
      exact this
    obtain ⟨a, c, l⟩ := x
    simp only [Wd.v] at *
    clear hx hb
    generalize phr l = P at *
    obtain ⟨n, hn'⟩ : ∃ n, l.length = n := ⟨_, rfl⟩
    rw [hn'] at h hp HB ⊢
    clear hn'
    have hn : ¬ ((n : Int) > 64) := by omega
    go_enter Try.func5, Try.ntmps5
    go_wp2_with fail
    refine hp.mono ?_
    rintro e w1 ⟨v, rfl, hv⟩
    obtain ⟨y, rfl, hyg, hy⟩ := hv.phs
    have hr := HJ.out y w1 hy hyg
    have E1 : Hid (Ext w w1) := hv.1
    clear hp HJ hv hyg hy
    go_wp2_with fail
    refine hr.mono ?_
    rintro e w2 ⟨he, z, hz, hzl, rfl⟩
    have E2 : Hid (Ext w w2) := E1.out.trans he
    have hs := HB.out z w2 hz E2.out hzl
    clear hr he hz hzl HB E1
    go_wp2_with fail
    refine hs.mono ?_
    rintro e w3 ⟨rfl, hw3⟩
    have E3 : Hid (Ext w w3) := E2.out.trans hw3.ext
    clear hs hw3 E2
    go_wp2
    go_ret
    exact ⟨rfl, E3.out⟩

set_option maxRecDepth 100000 in
theorem phraseBack_lifted (os : Os) (started : os.Started) (H : Type) (enc : TypeId × Value → H) :
    ReturnsInHanded {} Try.checked os 5 .any (Rows.phraseBackSpec.pre6 enc Try.prog Try.f5 Rows.phraseBackRow.domain false) (Rows.phraseBackSpec.post enc Try.prog Try.f5 false true false false) := by
  refine returnsInHanded_of_change (C := Try.checked) own started (by kernel_rfl) Try.func5
    (ChangeSpec.witness6 (enc := enc) (C := Try.checked) false ⟨#[], #[.slice none 0 0], []⟩ 8 (by kernel_rfl) (by kernel_rfl) (by kernel_rfl) (by kernel_rfl)) ?_
  intro W base args ds gs before hval0 hW _ _
  have hval : ∀ (j : Nat) t v, Try.f5.params[j]? = some t → args[j]? = some v → Value.okWide Try.prog W .any base t v := hval0
  have hW' := hW
  obtain ⟨p, q, hA0, hV, rfl, hfz, hnd⟩ := hW
  have hA : DataW.TrodAll enc Try.prog W 0 (fun _ => true) true Try.f5.params.toList args.toList ds p := hA0
  rw [Try.params5] at hA hval
  obtain ⟨v0, vs0, d0, ds0, p0, q0, hargs, rfl, rfl, h0, r0⟩ := trodAll_cons hA
  obtain ⟨rfl, rfl, rfl⟩ := trodAll_nil r0
  obtain rfl : args = #[v0] := by cases args; simp_all
  obtain ⟨rfl, rfl⟩ := trodVars_none hV
  have lt0 : ∀ x ∈ p0, x.block < W.heap.size := by obtain ⟨m, hm⟩ := h0; exact DataW.trod_lt m _ _ _ hm
  obtain ⟨x0, rfl, w0, y0, z0⟩ := open_word (hval 0 22 v0 rfl rfl) h0
  clear hA0 hval0
  refine (phraseBack_walk x0 W w0 y0).mono fun e W' ⟨he, bel⟩ => ?_
  subst he
  exact ⟨_, rfl, _, _, _, [], _, [], hW', trodAll_mk1 (shut_bool Try.underlying4 _), (trodAll_cons_mk (Below.trod laidOut (by kernel_rfl) (of_decide_eq_true (by kernel_rfl)) h0 bel lt0) trodAll_mk0), rfl, bel.frame _, fun h => by cases h⟩

theorem phraseBack_holds : Rows.PhraseBackSaid :=
  OpenClaim.holds_of_wide 5 Try.f5 rfl rfl rfl rfl rfl rfl rfl ⟨rfl, rfl, rfl, rfl, rfl⟩ rfl rfl rfl rfl rfl (by kernel_rfl) Try.func5 (by kernel_rfl)
    (of_decide_eq_true (by kernel_rfl)) (by unfold Func.isWrapper; rw [if_neg (of_decide_eq_false (by kernel_rfl))]; exact ⟨rfl, rfl⟩)
    (fun os started H enc _ => phraseBack_lifted os started H enc)

#print axioms phraseBack_holds

end Go.Proofs.Ytjgheojfdkfmkaa
