/-
  Singleton: for any book of two words or more: it has no more words than there are words of as many bits as are left when one less than the nearest two are apart are left out: BookSingleton returns true for every number and every list of words, and changes nothing.
-/
import Derived.Test.YtfcleenbhadfhabOpu
import Derived.Test.YtfcleenbhadfhabBd
import Derived.Test.YtfcleenbhadfhabBm
namespace Go.Proofs.Ytfcleenbhadfhab
open Go.ChangeShapes Go.WideShapes Go.ChangeAt Go.RowKit Go.Deep
set_option linter.unusedVariables false

theorem bookSingleton_err (n : Int) (x : Um) (hb : ∀ y ∈ x.z, y < 4294967296) (w : World) (hx : Us w x) (h : bke n x.z ≠ 0 ∨ x.z.length < 2) : Calls Try.prog 6 #[.int .i64 n, x.v] w fun e w' => e = .returned (.bool true) ∧ Ext w w' := by
  have c1 := least_err n x hb w hx h
  have hml : x.z.length ≤ maxLen := Nat.le_trans hx.1 hx.2.1
  unfold maxLen at hml
  by_cases h0 : bke n x.z = 0
  · have c2 : Hid (∀ W, Ext w W → Calls Try.prog 18 #[.int .i64 n, x.v] W fun e w' => e = .returned (.bool true) ∧ w' = W) := fun W E => by
      have := booked_any n x hb W (hx.ext E)
      rw [h0] at this
      exact this
    have hl : x.z.length < 2 := h.resolve_left (fun h => h h0)
    clear h h0 hx hb
    obtain ⟨a, c, g⟩ := x
    simp only [Um.v] at *
    generalize g.length = l at *
    have lz : (l : Int) < 2 := by omega
    go_enter Try.func6, Try.ntmps6
    go_wp2_with fail
    refine c1.mono ?_
    rintro e w1 ⟨⟨E, hE, rfl⟩, E1⟩
    have X1 : Aside (Ext w w1) := E1
    have c2' := c2.out w1 E1
    clear c1 c2 E1
    go_wp2_with fail
    refine c2'.mono ?_
    rintro e w2 ⟨rfl, rfl⟩
    clear c2'
    go_wp2
    go_ret
    exact ⟨ret_bool rfl, X1.out⟩
  · have c2 : Hid (∀ W, Ext w W → Calls Try.prog 18 #[.int .i64 n, x.v] W fun e w' => e = .returned (.bool false) ∧ w' = W) := fun W E => by
      have := booked_any n x hb W (hx.ext E)
      rw [show (bke n x.z == 0) = false by rw [beq_eq_false_iff_ne]; exact h0] at this
      exact this
    clear h h0 hx hb
    obtain ⟨a, c, g⟩ := x
    simp only [Um.v] at *
    generalize g.length = l at *
    go_enter Try.func6, Try.ntmps6
    go_wp2_with fail
    refine c1.mono ?_
    rintro e w1 ⟨⟨E, hE, rfl⟩, E1⟩
    have X1 : Aside (Ext w w1) := E1
    have c2' := c2.out w1 E1
    clear c1 c2 E1
    go_wp2_with fail
    refine c2'.mono ?_
    rintro e w2 ⟨rfl, rfl⟩
    clear c2'
    go_wp2
    go_ret
    exact ⟨ret_bool rfl, X1.out⟩

theorem bookSingleton_good (n : Nat) (x : Um) (hb : ∀ y ∈ x.z, y < 4294967296) (w : World) (hx : Us w x) (B : Book n x.z) (h2 : 2 ≤ x.z.length) : Calls Try.prog 6 #[.int .i64 n, x.v] w fun e w' => e = .returned (.bool true) ∧ Ext w w' := by
  have c1 := least_good n x w hx B h2
  have c2 : Hid (∀ W, Ext w W → Calls Try.prog 18 #[.int .i64 n, x.v] W fun e w' => e = .returned (.bool true) ∧ w' = W) := fun W E => by
    have := booked_any n x hb W (hx.ext E)
    rw [B.told] at this
    exact this
  have few := B.few
  have hn := B.bits
  have d1 := B.pos h2
  have d2 := lst_le n x.z (x.z.length - 1)
  have F := book_far (n := n) (g := x.z)
  have sb := singleton_bound B F d1 d2
  clear hx hb B F
  generalize lst n x.z (x.z.length - 1) = D at *
  obtain ⟨a, c, g⟩ := x
  simp only [Um.v] at *
  generalize g.length = l at *
  have lz : ¬ (l : Int) < 2 := by omega
  have dz1 : (1 : Int) ≤ (D : Nat) := by omega
  go_enter Try.func6, Try.ntmps6
  go_wp2_with fail
  refine c1.mono ?_
  rintro e w1 ⟨rfl, E1⟩
  have X1 : Aside (Ext w w1) := E1
  have c2' := c2.out w1 E1
  clear c1 c2 E1
  go_wp2_with fail
  refine c2'.mono ?_
  rintro e w2 ⟨rfl, rfl⟩
  clear c2'
  have ee : (n : Int) - (D : Int) + 1 = ((n - D + 1 : Nat) : Int) := by omega
  have hE : n - D + 1 ≤ 12 := by omega
  generalize n - D + 1 = E at *
  have wp : Hid ((l : Int) ≤ wrap64 ((2 : Int) ^ E)) := by
    show _ ≤ _
    rw [wrap_pow hE]
    exact Int.ofNat_le.2 sb
  clear hE sb
  go_wp2
  go_ret
  exact ⟨ret_bool (by simp; exact wp.out), X1.out⟩

theorem bookSingleton_walk (n : Int) (x : Um) (hb : ∀ y ∈ x.z, y < 4294967296) (w : World) (hx : Us w x) : Calls Try.prog 6 #[.int .i64 n, x.v] w fun e w' => e = .returned (.bool true) ∧ Ext w w' := by
  by_cases h : bke n x.z ≠ 0 ∨ x.z.length < 2
  · exact bookSingleton_err n x hb w hx h
  · have h0 : bke n x.z = 0 := Classical.byContradiction fun h' => h (Or.inl h')
    obtain ⟨m, rfl, B⟩ := bke_zero h0
    exact bookSingleton_good m x hb w hx B (by have : ¬ x.z.length < 2 := fun h' => h (Or.inr h'); omega)

set_option maxRecDepth 100000 in
theorem bookSingleton_lifted (os : Os) (started : os.Started) (H : Type) (enc : TypeId × Value → H) :
    ReturnsInHanded {} Try.checked os 6 .any (Rows.bookSingletonSpec.pre6 enc Try.prog Try.f6 Rows.bookSingletonRow.domain false) (Rows.bookSingletonSpec.post enc Try.prog Try.f6 false true false false) := by
  refine returnsInHanded_of_change (C := Try.checked) own started (by kernel_rfl) Try.func6
    (ChangeSpec.witness6 (enc := enc) (C := Try.checked) false ⟨#[], #[.int .i64 0, .slice none 0 0], []⟩ 8 (by kernel_rfl) (by kernel_rfl) (by kernel_rfl) (by kernel_rfl)) ?_
  intro W base args ds gs before hval0 hW _ _
  have hval : ∀ (j : Nat) t v, Try.f6.params[j]? = some t → args[j]? = some v → Value.okWide Try.prog W .any base t v := hval0
  have hW' := hW
  obtain ⟨p, q, hA0, hV, rfl, hfz, hnd⟩ := hW
  have hA : DataW.TrodAll enc Try.prog W 0 (fun _ => true) true Try.f6.params.toList args.toList ds p := hA0
  rw [Try.params6] at hA hval
  obtain ⟨v0, vs0, d0, ds0, p0, q0, hargs, rfl, rfl, h0, r0⟩ := trodAll_cons hA
  obtain ⟨v1, vs1, d1, ds1, p1, q1, rfl, rfl, rfl, h1, r1⟩ := trodAll_cons r0
  obtain ⟨rfl, rfl, rfl⟩ := trodAll_nil r1
  obtain rfl : args = #[v0, v1] := by cases args; simp_all
  obtain ⟨rfl, rfl⟩ := trodVars_none hV
  have lt0 : ∀ x ∈ p0, x.block < W.heap.size := by obtain ⟨m, hm⟩ := h0; exact DataW.trod_lt m _ _ _ hm
  obtain ⟨x0, rfl, -, -, wf0⟩ := open_int Try.underlying3 (hval 0 3 v0 rfl rfl) h0
  have lt1 : ∀ x ∈ p1, x.block < W.heap.size := by obtain ⟨m, hm⟩ := h1; exact DataW.trod_lt m _ _ _ hm
  obtain ⟨x1, rfl, w1, b1⟩ := open_us (hval 1 22 v1 rfl rfl) h1
  clear hA0 hval0
  refine (bookSingleton_walk x0 x1 b1 W w1).mono fun e W' ⟨he, bel⟩ => ?_
  subst he
  exact ⟨_, rfl, _, _, _, [], _, [], hW', trodAll_mk1 (shut_bool Try.underlying4 _), (trodAll_cons_mk (Below.trod laidOut (by kernel_rfl) (of_decide_eq_true (by kernel_rfl)) h0 bel lt0) (trodAll_cons_mk (Below.trod laidOut (by kernel_rfl) (of_decide_eq_true (by kernel_rfl)) h1 bel lt1) trodAll_mk0)), rfl, bel.frame _, fun h => by cases h⟩

theorem bookSingleton_holds : Rows.BookSingletonSaid :=
  OpenClaim.holds_of_wide 6 Try.f6 rfl rfl rfl rfl rfl rfl rfl ⟨rfl, rfl, rfl, rfl, rfl⟩ rfl rfl rfl rfl rfl (by kernel_rfl) Try.func6 (by kernel_rfl)
    (of_decide_eq_true (by kernel_rfl)) (by unfold Func.isWrapper; rw [if_neg (of_decide_eq_false (by kernel_rfl))]; exact ⟨rfl, rfl⟩)
    (fun os started H enc _ => bookSingleton_lifted os started H enc)

#print axioms bookSingleton_holds

end Go.Proofs.Ytfcleenbhadfhab
