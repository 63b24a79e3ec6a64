/-
  For any two data of as many numbers what is put for them is the same at fewer places than these: PointsFar returns true for every number of places and all lists of numbers, and changes nothing.
-/
import Derived.Test.YtjdipgkdaloclaaOpen
import Derived.Test.YtjdipgkdaloclaaDf
import Derived.Test.YtjdipgkdaloclaaNum
import Derived.ProofKit
namespace Go.Proofs.Ytjdipgkdaloclaa
open Go.ChangeShapes Go.WideShapes Go.ChangeAt Go.RowKit Go.Deep
set_option linter.unusedVariables false

theorem pue_zero {n : Int} {z : List Int} (h : pue n z = 0) : ∃ m : Nat, n = m ∧ m ≤ 9 ∧ 1 ≤ z.length ∧ z.length ≤ m ∧ ∃ d : List Nat, z = zl d ∧ ∀ c ∈ d, c < 16 := by
  unfold pue at h
  by_cases h0 : pc z.length n = 0
  · rw [if_pos h0] at h
    have := pc_zero h0
    obtain ⟨d, e, hd⟩ := zl_of (fe_zero h)
    exact ⟨n.toNat, by omega, by omega, by omega, by omega, d, e, hd⟩
  · rw [if_neg h0] at h
    exact absurd h h0

/-- Put, whatever it is given. -/
theorem Put_any (n : Int) (y : Nm) (w : World) (hw : Nums w y) : Calls Try.prog 7 #[.int .i64 n, y.v] w fun e w' => Ext w w' ∧ ∃ (a : Option Addr) (l c : Nat), e = .returned (.tuple #[.slice a l c, .int .i64 (pue n y.z)]) ∧ (pue n y.z ≠ 0 → l = 0) := by
  by_cases h : pue n y.z = 0
  · obtain ⟨m, rfl, h9, h1, h2, d, e, hd⟩ := pue_zero h
    have hl : d.length = y.z.length := by rw [e, zl_len]
    refine (Put_good m d hd (by omega) (by omega) h9 y e w hw).mono ?_
    rintro e' w' ⟨rfl, E, _⟩
    exact ⟨E, _, _, _, by rw [h], fun h' => absurd h h'⟩
  · refine (Put_bad n y _ rfl h w hw).mono ?_
    rintro e' w' ⟨rfl, hh⟩
    subst hh
    exact ⟨Ext.refl _, none, 0, 0, rfl, fun _ => rfl⟩

set_option maxRecDepth 100000 in
theorem far_first (n : Int) (y q : Nm) (h : pue n y.z ≠ 0) (w : World) (hy : Nums w y) (hq : Nums w q) : Calls Try.prog 6 #[.int .i64 n, y.v, q.v] w fun e w' => e = .returned (.bool true) ∧ Ext w w' := by
  have c1 := Put_any n y w hy
  have c2 : Hid (∀ W, Ext w W → Calls Try.prog 7 #[.int .i64 n, q.v] W fun e w' => Ext W w' ∧ ∃ (a : Option Addr) (l c : Nat), e = .returned (.tuple #[.slice a l c, .int .i64 (pue n q.z)]) ∧ (pue n q.z ≠ 0 → l = 0)) := fun W E => Put_any n q W (hq.ext E)
  clear hy hq
  simp only [Nm.v] at *
  generalize pue n y.z = X at *
  generalize pue n q.z = X2 at *
  have hz : (X != 0) = true := bne_iff_ne.2 h
  have hz2 : (X == 0) = false := beq_eq_false_iff_ne.2 h
  generalize y.z.length = m at *
  generalize q.z.length = m2 at *
  go_enter Try.func6, Try.ntmps6
  go_wp2_with fail
  refine c1.mono ?_
  rintro e w1 ⟨E1, a, l, c, rfl, hl⟩
  obtain rfl := hl h
  have k2 := c2.out w1 E1
  have E : Hid (Ext w w1) := E1
  clear c1 c2 E1 hl h
  go_wp2_with fail
  refine k2.mono ?_
  rintro e w2 ⟨E2, a2, l2, cc2, rfl, hl2⟩
  have E3 : Hid (Ext w w2) := E.out.trans E2
  clear k2 E2 E
  by_cases h2 : X2 = 0
  · subst h2
    clear hl2
    go_wp2
    go_ret
    exact ⟨rfl, E3.out⟩
  · obtain rfl := hl2 h2
    have hz3 : (X2 != 0) = true := bne_iff_ne.2 h2
    have hz4 : (X2 == 0) = false := beq_eq_false_iff_ne.2 h2
    clear hl2 h2
    go_wp2
    go_ret
    exact ⟨rfl, E3.out⟩

set_option maxRecDepth 100000 in
theorem far_second (n : Int) (y q : Nm) (h : pue n y.z = 0) (h2 : pue n q.z ≠ 0) (w : World) (hy : Nums w y) (hq : Nums w q) : Calls Try.prog 6 #[.int .i64 n, y.v, q.v] w fun e w' => e = .returned (.bool true) ∧ Ext w w' := by
  have c1 := Put_any n y w hy
  have c2 : Hid (∀ W, Ext w W → Calls Try.prog 7 #[.int .i64 n, q.v] W fun e w' => Ext W w' ∧ ∃ (a : Option Addr) (l c : Nat), e = .returned (.tuple #[.slice a l c, .int .i64 (pue n q.z)]) ∧ (pue n q.z ≠ 0 → l = 0)) := fun W E => Put_any n q W (hq.ext E)
  clear hy hq
  rw [h] at c1
  clear h
  simp only [Nm.v] at *
  generalize pue n q.z = X2 at *
  have hz : (X2 != 0) = true := bne_iff_ne.2 h2
  have hz2 : (X2 == 0) = false := beq_eq_false_iff_ne.2 h2
  generalize y.z.length = m at *
  generalize q.z.length = m2 at *
  go_enter Try.func6, Try.ntmps6
  go_wp2_with fail
  refine c1.mono ?_
  rintro e w1 ⟨E1, a, l, c, rfl, hl⟩
  have k2 := c2.out w1 E1
  have E : Hid (Ext w w1) := E1
  clear c1 c2 E1 hl
  go_wp2_with fail
  refine k2.mono ?_
  rintro e w2 ⟨E2, a2, l2, cc2, rfl, hl2⟩
  have E3 : Hid (Ext w w2) := E.out.trans E2
  obtain rfl := hl2 h2
  clear k2 E2 E hl2 h2
  go_wp2
  go_ret
  exact ⟨rfl, E3.out⟩

set_option maxRecDepth 100000 in
theorem far_length (n : Int) (y q : Nm) (h : pue n y.z = 0) (h2 : pue n q.z = 0) (hl : y.z.length ≠ q.z.length) (w : World) (hy : Nums w y) (hq : Nums w q) : Calls Try.prog 6 #[.int .i64 n, y.v, q.v] w fun e w' => e = .returned (.bool true) ∧ Ext w w' := by
  have c1 := Put_any n y w hy
  have c2 : Hid (∀ W, Ext w W → Calls Try.prog 7 #[.int .i64 n, q.v] W fun e w' => Ext W w' ∧ ∃ (a : Option Addr) (l c : Nat), e = .returned (.tuple #[.slice a l c, .int .i64 (pue n q.z)]) ∧ (pue n q.z ≠ 0 → l = 0)) := fun W E => Put_any n q W (hq.ext E)
  clear hy hq
  rw [h] at c1
  rw [h2] at c2
  have hz : (((y.z.length : Nat) : Int) != ((q.z.length : Nat) : Int)) = true := bne_iff_ne.2 (by omega)
  clear h h2 hl
  simp only [Nm.v] at *
  generalize y.z.length = m at *
  generalize q.z.length = m2 at *
  go_enter Try.func6, Try.ntmps6
  go_wp2_with fail
  refine c1.mono ?_
  rintro e w1 ⟨E1, a, l, c, rfl, hl⟩
  have k2 := c2.out w1 E1
  have E : Hid (Ext w w1) := E1
  clear c1 c2 E1 hl
  go_wp2_with fail
  refine k2.mono ?_
  rintro e w2 ⟨E2, a2, l2, cc2, rfl, hl2⟩
  have E3 : Hid (Ext w w2) := E.out.trans E2
  clear k2 E2 E hl2
  go_wp2
  go_ret
  exact ⟨rfl, E3.out⟩

set_option maxRecDepth 100000 in
theorem far_good (n : Nat) (a b : List Nat) (ha : ∀ c ∈ a, c < 16) (hb : ∀ c ∈ b, c < 16) (hl : a.length = b.length) (h1 : 1 ≤ a.length) (h2 : a.length ≤ n) (h9 : n ≤ 9) (y q : Nm) (ey : y.z = zl a) (eq : q.z = zl b) (w : World) (hy : Nums w y) (hq : Nums w q) : Calls Try.prog 6 #[.int .i64 n, y.v, q.v] w fun e w' => e = .returned (.bool true) ∧ Ext w w' := by
  have c1 := Put_good n a ha h1 h2 h9 y ey w hy
  have c2 : Hid (∀ W, Ext w W → Calls Try.prog 7 #[.int .i64 n, q.v] W fun e w' => e = .returned (.tuple #[.slice (some ⟨W.heap.size, 0, none⟩) n n, .int .i64 0]) ∧ Ext W w' ∧ Row w' W.heap.size 3 (nf (ep b) n)) := fun W E => Put_good n b hb (by omega) (by omega) h9 q eq W (hq.ext E)
  have la : y.z.length = a.length := by rw [ey, zl_len]
  have lb : q.z.length = a.length := by rw [eq, zl_len, hl]
  have IN : Hid (∀ W, Ext w W → Calls Try.prog 9 #[y.v, q.v] W fun e w' => e = .returned (.bool (zl a == zl b)) ∧ Qt W w') := fun W E => by
    have := ints_any y q W (hy.ext E) (hq.ext E)
    rw [ey, eq] at this
    exact this
  have IR : Hid (zl a = zl b → ∀ W B1 B2, Row W B1 3 (nf (ep a) n) → Row W B2 3 (nf (ep b) n) → Calls Try.prog 9 #[.slice (some ⟨B1, 0, none⟩) n n, .slice (some ⟨B2, 0, none⟩) n n] W fun e w' => e = .returned (.bool true) ∧ Qt W w') := fun he W B1 B2 R1 R2 => by
    have hab : a = b := by
      have := congrArg (List.map Int.toNat) he
      simpa [zl, Function.comp_def] using this
    have n1 := R1.numsF (by unfold maxLen; omega)
    have n2 := R2.numsF (by unfold maxLen; omega)
    have := ints_any _ _ W n1 n2
    rw [hab, beq_self_eq_true] at this
    simp only [Nm.v, zl_len, nl_len] at this
    exact this
  have DI : Hid (∀ W B1 B2, Row W B1 3 (nf (ep a) n) → Row W B2 3 (nf (ep b) n) → Calls Try.prog 16 #[.slice (some ⟨B1, 0, none⟩) n n, .slice (some ⟨B2, 0, none⟩) n n] W fun e w' => e = .returned (.int .i64 (dfc (zl (nl (ep a) n)) (zl (nl (ep b) n)) n : Nat)) ∧ Ext W w') := fun W B1 B2 R1 R2 => by
    have n1 := R1.numsF (by unfold maxLen; omega)
    have n2 := R2.numsF (by unfold maxLen; omega)
    have := differ_any _ _ (by simp) (by simp; omega) W n1 n2
    simp only [Nm.v, zl_len, nl_len] at this
    exact this
  have FA : Hid (¬ zl a = zl b → n < dfc (zl (nl (ep a) n)) (zl (nl (ep b) n)) n + a.length) := fun he => far_of ha hb hl (fun h => he (by rw [h])) h9
  have DL := dfc_le (zl (nl (ep a) n)) (zl (nl (ep b) n)) n
  have hyv : y.v = .slice y.a a.length y.c := by rw [Nm.v, la]
  have hqv : q.v = .slice q.a a.length q.c := by rw [Nm.v, lb]
  rw [hyv] at c1
  rw [hqv] at c2
  rw [hyv, hqv] at IN ⊢
  clear hyv hqv la lb hy hq ey eq ha hb hl
  generalize dfc (zl (nl (ep a) n)) (zl (nl (ep b) n)) n = C at *
  generalize ep a = Va at *
  generalize ep b = Vb at *
  generalize zl a = za at *
  generalize zl b = zb at *
  generalize a.length = m at *
  generalize y.a = ya at *
  generalize y.c = yc at *
  generalize q.a = qa at *
  generalize q.c = qc at *
  go_enter Try.func6, Try.ntmps6
  go_wp2_with fail
  refine c1.mono ?_
  rintro e w1 ⟨rfl, E1, R1⟩
  have k2 := c2.out w1 E1
  have E : Hid (Ext w w1) := E1
  have RA : Hid (Row w1 w.heap.size 3 (nf Va n)) := R1
  clear c1 c2 E1 R1
  go_wp2_with fail
  refine k2.mono ?_
  rintro e w2 ⟨rfl, E2, R2⟩
  have E3 : Hid (Ext w w2) := E.out.trans E2
  have RA2 : Hid (Row w2 w.heap.size 3 (nf Va n)) := RA.out.ext E2
  have RB2 : Hid (Row w2 w1.heap.size 3 (nf Vb n)) := R2
  have k3 := IN.out w2 E3.out
  clear k2 E2 E RA R2
  by_cases he : za = zb
  · have hb : (za == zb) = true := beq_iff_eq.2 he
    rw [hb] at k3
    have ir := IR.out he
    have IR2 : Hid (∀ W B1 B2, Row W B1 3 (nf Va n) → Row W B2 3 (nf Vb n) → Calls Try.prog 9 #[.slice (some ⟨B1, 0, none⟩) n n, .slice (some ⟨B2, 0, none⟩) n n] W fun e w' => e = .returned (.bool true) ∧ Qt W w') := ir
    clear ir IR DI FA he hb IN
    go_wp2_with fail
    refine k3.mono ?_
    rintro e w3 ⟨rfl, q3⟩
    have k4 := IR2.out w3 _ _ (RA2.out.ext q3.ext) (RB2.out.ext q3.ext)
    have E4 : Hid (Ext w w3) := E3.out.trans q3.ext
    clear k3 IR2 RA2 RB2 E3 q3
    go_wp2_with fail
    refine k4.mono ?_
    rintro e w4 ⟨rfl, q4⟩
    have E5 : Hid (Ext w w4) := E4.out.trans q4.ext
    clear k4 E4 q4
    go_wp2
    go_ret
    exact ⟨rfl, E5.out⟩
  · have hb : (za == zb) = false := beq_eq_false_iff_ne.2 he
    rw [hb] at k3 IN
    have fa := FA.out he
    clear IR FA he hb
    go_wp2_with fail
    refine k3.mono ?_
    rintro e w3 ⟨rfl, q3⟩
    have E4 : Hid (Ext w w3) := E3.out.trans q3.ext
    have k4 := IN.out w3 E4.out
    have RA3 : Hid (Row w3 w.heap.size 3 (nf Va n)) := RA2.out.ext q3.ext
    have RB3 : Hid (Row w3 w1.heap.size 3 (nf Vb n)) := RB2.out.ext q3.ext
    clear k3 IN RA2 RB2 E3 q3
    go_wp2_with fail
    refine k4.mono ?_
    rintro e w4 ⟨rfl, q4⟩
    have E5 : Hid (Ext w w4) := E4.out.trans q4.ext
    have k5 := DI.out w4 _ _ (RA3.out.ext q4.ext) (RB3.out.ext q4.ext)
    clear k4 E4 q4 RA3 RB3 DI
    have faz : (n : Int) - (C : Int) < (m : Int) := by omega
    go_wp2_with fail
    refine k5.mono ?_
    rintro e w5 ⟨rfl, E6⟩
    have E7 : Hid (Ext w w5) := E5.out.trans E6
    clear k5 E5 E6
    go_wp2
    go_ret
    exact ⟨rfl, E7.out⟩

theorem far_walk (n : Int) (y q : Nm) (w : World) (hy : Nums w y) (hq : Nums w q) : Calls Try.prog 6 #[.int .i64 n, y.v, q.v] w fun e w' => e = .returned (.bool true) ∧ Ext w w' := by
  by_cases h : pue n y.z = 0
  · by_cases h2 : pue n q.z = 0
    · by_cases hl : y.z.length = q.z.length
      · obtain ⟨m, rfl, h9, h1, hm, a, ea, ha⟩ := pue_zero h
        obtain ⟨m2, hm2, h92, h12, hm3, b, eb, hb⟩ := pue_zero h2
        have l1 : y.z.length = a.length := by rw [ea, zl_len]
        have l2 : q.z.length = b.length := by rw [eb, zl_len]
        exact far_good m a b ha hb (by omega) (by omega) (by omega) h9 y q ea eb w hy hq
      · exact far_length n y q h h2 hl w hy hq
    · exact far_second n y q h h2 w hy hq
  · exact far_first n y q h w hy hq

set_option maxRecDepth 100000 in
theorem pointsFar_lifted (os : Os) (started : os.Started) (H : Type) (enc : TypeId × Value → H) :
    ReturnsInHanded {} Try.checked os 6 .any (Rows.pointsFarSpec.pre6 enc Try.prog Try.f6 Rows.pointsFarRow.domain false) (Rows.pointsFarSpec.post enc Try.prog Try.f6 false true false false) := by
  refine returnsInHanded_of_change (C := Try.checked) own started (by kernel_rfl) Try.func6
    (ChangeSpec.witness6 (enc := enc) (C := Try.checked) false ⟨#[], #[.int .i64 0, .slice none 0 0, .slice none 0 0], []⟩ 8 (by kernel_rfl) (by kernel_rfl) (by kernel_rfl) (by kernel_rfl)) ?_
  intro W base args ds gs before hval0 hW _ _
  have hval : ∀ (j : Nat) t v, Try.f6.params[j]? = some t → args[j]? = some v → Value.okWide Try.prog W .any base t v := hval0
  have hW' := hW
  obtain ⟨p, q, hA0, hV, rfl, hfz, hnd⟩ := hW
  have hA : DataW.TrodAll enc Try.prog W 0 (fun _ => true) true Try.f6.params.toList args.toList ds p := hA0
  rw [Try.params6] at hA hval
  obtain ⟨v0, vs0, d0, ds0, p0, q0, hargs, rfl, rfl, h0, r0⟩ := trodAll_cons hA
  obtain ⟨v1, vs1, d1, ds1, p1, q1, rfl, rfl, rfl, h1, r1⟩ := trodAll_cons r0
  obtain ⟨v2, vs2, d2, ds2, p2, q2, rfl, rfl, rfl, h2, r2⟩ := trodAll_cons r1
  obtain ⟨rfl, rfl, rfl⟩ := trodAll_nil r2
  obtain rfl : args = #[v0, v1, v2] := by cases args; simp_all
  obtain ⟨rfl, rfl⟩ := trodVars_none hV
  have lt0 : ∀ x ∈ p0, x.block < W.heap.size := by obtain ⟨m, hm⟩ := h0; exact DataW.trod_lt m _ _ _ hm
  obtain ⟨x0, rfl, -, -, wf0⟩ := open_int Try.underlying3 (hval 0 3 v0 rfl rfl) h0
  have lt1 : ∀ x ∈ p1, x.block < W.heap.size := by obtain ⟨m, hm⟩ := h1; exact DataW.trod_lt m _ _ _ hm
  obtain ⟨x1, rfl, w1⟩ := open_syms (hval 1 22 v1 rfl rfl) h1
  have lt2 : ∀ x ∈ p2, x.block < W.heap.size := by obtain ⟨m, hm⟩ := h2; exact DataW.trod_lt m _ _ _ hm
  obtain ⟨x2, rfl, w2⟩ := open_syms (hval 2 22 v2 rfl rfl) h2
  clear hA0 hval0
  refine (far_walk x0 x1 x2 W w1 w2).mono fun e W' ⟨he, bel⟩ => ?_
  subst he
  exact ⟨_, rfl, _, _, _, [], _, [], hW', trodAll_mk1 (shut_bool Try.underlying4 _), (trodAll_cons_mk (Below.trod laidOut (by kernel_rfl) (of_decide_eq_true (by kernel_rfl)) h0 bel lt0) (trodAll_cons_mk (Below.trod laidOut (by kernel_rfl) (of_decide_eq_true (by kernel_rfl)) h1 bel lt1) (trodAll_cons_mk (Below.trod laidOut (by kernel_rfl) (of_decide_eq_true (by kernel_rfl)) h2 bel lt2) trodAll_mk0))), rfl, bel.frame _, fun h => by cases h⟩

theorem pointsFar_holds : Rows.PointsFarSaid :=
  OpenClaim.holds_of_wide 6 Try.f6 rfl rfl rfl rfl rfl rfl rfl ⟨rfl, rfl, rfl, rfl, rfl⟩ rfl rfl rfl rfl rfl (by kernel_rfl) Try.func6 (by kernel_rfl)
    (of_decide_eq_true (by kernel_rfl)) (by unfold Func.isWrapper; rw [if_neg (of_decide_eq_false (by kernel_rfl))]; exact ⟨rfl, rfl⟩)
    (fun os started H enc _ => pointsFar_lifted os started H enc)

#print axioms pointsFar_holds

end Go.Proofs.Ytjdipgkdaloclaa
