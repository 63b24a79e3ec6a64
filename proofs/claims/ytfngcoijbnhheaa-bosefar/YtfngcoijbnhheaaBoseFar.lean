/-
  For any two data what is put for them is not the same at five places at least: BoseFar returns true for all lists of bits, and changes nothing.
-/
import Derived.Test.YtfngcoijbnhheaaOpen
import Derived.Test.YtfngcoijbnhheaaEq
import Derived.Test.YtfngcoijbnhheaaFx
import Derived.Test.YtfngcoijbnhheaaDf
import Derived.ProofKit
namespace Go.Proofs.Ytfngcoijbnhheaa
open Go.ChangeShapes Go.WideShapes Go.ChangeAt Go.RowKit Go.Deep
set_option linter.unusedVariables false

/-- Put, whatever it is given. -/
theorem bPut_any (x : Wd) (w : World) (hx : Bits w x) : Calls Try.prog 7 #[x.v] w fun e w' => Ext w w' ∧ ∃ (a : Option Addr) (l c : Nat) (k : Int), e = .returned (.tuple #[.slice a l c, .int .i64 k]) ∧ (x.l.length ≠ 7 → l = 0 ∧ k = 3) := by
  by_cases h : x.l.length = 7
  · refine (bPut_good x h w hx).mono ?_
    rintro e w' ⟨d, rfl, _, _, E⟩
    exact ⟨E, _, _, _, _, rfl, fun h' => absurd h h'⟩
  · refine (bPut_bad x h w).mono ?_
    rintro e w' ⟨rfl, hh⟩
    subst hh
    exact ⟨Ext.refl _, none, 0, 0, 3, rfl, fun _ => ⟨rfl, rfl⟩⟩

set_option maxRecDepth 100000 in
theorem far_first (x y : Wd) (h : x.l.length ≠ 7) (w : World) (hx : Bits w x) (hy : Bits w y) : Calls Try.prog 6 #[x.v, y.v] w fun e w' => e = .returned (.bool true) ∧ Ext w w' := by
  have c1 := bPut_bad x h w
  have c2 : Hid (∀ W, Ext w W → Calls Try.prog 7 #[y.v] W fun e w' => Ext W w' ∧ ∃ (a : Option Addr) (l c : Nat) (k : Int), e = .returned (.tuple #[.slice a l c, .int .i64 k]) ∧ (y.l.length ≠ 7 → l = 0 ∧ k = 3)) := fun W E => bPut_any y W (hy.ext E)
  have hz : ¬ (x.l.length : Int) = 7 := by omega
  clear hx hy
  simp only [Wd.v] at *
  generalize x.l.length = n at *
  generalize y.l.length = m at *
  go_enter Try.func6, Try.ntmps6
  go_wp2_with fail
  refine c1.mono ?_
  rintro e w1 ⟨rfl, rfl⟩
  clear c1
  go_wp2_with fail
  refine (c2.out w1 (Ext.refl _)).mono ?_
  rintro e w2 ⟨E2, a, l, c, k, rfl, -⟩
  have E : Hid (Ext w1 w2) := E2
  clear c2 E2
  go_wp2
  go_ret
  exact ⟨rfl, E.out⟩

set_option maxRecDepth 100000 in
theorem far_second (x y : Wd) (h : x.l.length = 7) (h2 : y.l.length ≠ 7) (w : World) (hx : Bits w x) : Calls Try.prog 6 #[x.v, y.v] w fun e w' => e = .returned (.bool true) ∧ Ext w w' := by
  have c1 := bPut_good x h w hx
  have c2 : Hid (∀ W, Calls Try.prog 7 #[y.v] W fun e w' => e = .returned (.tuple #[.slice none 0 0, .int .i64 3]) ∧ w' = W) := fun W => bPut_bad y h2 W
  have hz : ¬ (y.l.length : Int) = 7 := by omega
  clear hx
  simp only [Wd.v] at *
  rw [h] at *
  generalize y.l.length = m at *
  go_enter Try.func6, Try.ntmps6
  go_wp2_with fail
  refine c1.mono ?_
  rintro e w1 ⟨d, rfl, -, -, E1⟩
  have E : Hid (Ext w w1) := E1
  clear c1 E1
  go_wp2_with fail
  refine (c2.out w1).mono ?_
  rintro e w2 ⟨rfl, rfl⟩
  clear c2
  go_wp2
  go_ret
  exact ⟨rfl, E.out⟩

set_option maxHeartbeats 2000000 in
set_option maxRecDepth 100000 in
theorem far_both (x y : Wd) (h : x.l.length = 7) (h2 : y.l.length = 7) (w : World) (hx : Bits w x) (hy : Bits w y) : Calls Try.prog 6 #[x.v, y.v] w fun e w' => e = .returned (.bool true) ∧ Ext w w' := by
  have c1 := bPut_good x h w hx
  have c2 : Hid (∀ W, Ext w W → Calls Try.prog 7 #[y.v] W fun e w' => ∃ d : Wd, e = .returned (.tuple #[d.v, .int .i64 0]) ∧ d.l = bo y.l ∧ Bits w' d ∧ Ext W w') := fun W E => bPut_good y h2 W (hy.ext E)
  have c3 : Hid (∀ W, Ext w W → Calls Try.prog 8 #[x.v, y.v] W fun e w' => e = .returned (.bool (x.l == y.l)) ∧ Qt W w') := fun W E => bools_any x y W (hx.ext E) (hy.ext E)
  have c4 : Hid (∀ (p q : Wd) (W : World), p.l = bo x.l → q.l = bo y.l → Bits W p → Bits W q → Calls Try.prog 8 #[p.v, q.v] W fun e w' => e = .returned (.bool (bo x.l == bo y.l)) ∧ Qt W w') := fun p q W hp hq hbp hbq => by
    have := bools_any p q W hbp hbq
    rw [hp, hq] at this
    exact this
  have c5 : Hid (∀ (p q : Wd) (W : World), p.l = bo x.l → q.l = bo y.l → Bits W p → Bits W q → Calls Try.prog 13 #[p.v, q.v] W fun e w' => e = .returned (.int .i64 (df (bo x.l) (bo y.l) : Nat)) ∧ Qt W w') := fun p q W hp hq hbp hbq => by
    have := differ_any p q (by rw [hp, hq, bo_len h, bo_len h2]) (by rw [hp, bo_len h]; omega) W hbp hbq
    rw [hp, hq] at this
    exact this
  have c6 : Hid (∀ (p : Wd), p.l = bo x.l → ∃ a c, p.v = .slice a 15 c) := fun p hp => ⟨p.a, p.c, by rw [Wd.v, hp, bo_len h]⟩
  have c7 : Hid (∀ (p : Wd), p.l = bo y.l → ∃ a c, p.v = .slice a 15 c) := fun p hp => ⟨p.a, p.c, by rw [Wd.v, hp, bo_len h2]⟩
  have hs : (x.l == y.l) = true → (bo x.l == bo y.l) = true := fun e => by
    rw [beq_iff_eq] at e ⊢
    rw [e]
  have hd : (x.l == y.l) = false → 5 ≤ df (bo x.l) (bo y.l) := fun e => by
    rcases Nat.lt_or_ge (df (bo x.l) (bo y.l)) 5 with h' | h'
    · rw [bo_far h h2 (by omega)] at e
      simp at e
    · exact h'
  clear hx hy
  have Hs : Hid ((x.l == y.l) = true → (bo x.l == bo y.l) = true) := hs
  have Hd : Hid ((x.l == y.l) = false → 5 ≤ df (bo x.l) (bo y.l)) := hd
  clear hs hd
  simp only [Wd.v] at *
  rw [h, h2] at *
  clear h h2
  generalize (bo x.l == bo y.l) = T at *
  generalize df (bo x.l) (bo y.l) = D at *
  generalize bo x.l = X at *
  generalize bo y.l = Y at *
  generalize (x.l == y.l) = S at *
  go_enter Try.func6, Try.ntmps6
  go_wp2_with fail
  refine c1.mono ?_
  rintro e w1 ⟨p, rfl, hp, hb, E1⟩
  have P1 : Hid (p.l = X ∧ Bits w1 p) := ⟨hp, hb⟩
  have E : Hid (Ext w w1) := E1
  clear c1 hp hb E1
  obtain ⟨pa, pc', hpv⟩ := c6.out p P1.out.1
  have HP : Hid (Value.slice p.a p.l.length p.c = .slice pa 15 pc') := hpv
  rw [hpv]
  clear c6 hpv
  go_wp2_with fail
  refine (c2.out w1 E.out).mono ?_
  rintro e w2 ⟨q, rfl, hq, hb, E2⟩
  have Q2 : Hid (q.l = Y ∧ Bits w2 q) := ⟨hq, hb⟩
  have P2 : Hid (p.l = X ∧ Bits w2 p) := ⟨P1.out.1, P1.out.2.ext E2⟩
  have E' : Hid (Ext w w2) := E.out.trans E2
  clear c2 hq hb E2 E P1
  obtain ⟨qa, qc, hqv⟩ := c7.out q Q2.out.1
  have HQ : Hid (Value.slice q.a q.l.length q.c = .slice qa 15 qc) := hqv
  rw [hqv]
  clear c7 hqv
  go_wp2_with fail
  refine (c3.out w2 E'.out).mono ?_
  rintro e w3 ⟨rfl, Q3⟩
  have P3 : Hid (p.l = X ∧ Bits w3 p) := ⟨P2.out.1, P2.out.2.ext Q3.ext⟩
  have Q3' : Hid (q.l = Y ∧ Bits w3 q) := ⟨Q2.out.1, Q2.out.2.ext Q3.ext⟩
  have E3 : Hid (Ext w w3) := E'.out.trans Q3.ext
  clear P2 Q2 E' Q3
  cases S with
  | true =>
    have hT : T = true := Hs.out rfl
    subst hT
    have k4 := c4.out p q w3 P3.out.1 Q3'.out.1 P3.out.2 Q3'.out.2
    rw [HP.out, HQ.out] at k4
    clear c3 c4 c5 Hs Hd P3 Q3' HP HQ
    go_wp2_with fail
    refine k4.mono ?_
    rintro e w4 ⟨rfl, Q4⟩
    have E4 : Hid (Ext w w4) := E3.out.trans Q4.ext
    clear k4 Q4 E3
    go_wp2
    go_ret
    exact ⟨rfl, E4.out⟩
  | false =>
    have hD := Hd.out rfl
    have hDz : (5 : Int) ≤ (D : Int) := by omega
    go_wp2_with fail
    refine (c3.out w3 E3.out).mono ?_
    rintro e w4 ⟨rfl, Q4⟩
    have k5 := c5.out p q w4 P3.out.1 Q3'.out.1 (P3.out.2.ext Q4.ext) (Q3'.out.2.ext Q4.ext)
    rw [HP.out, HQ.out] at k5
    have E4 : Hid (Ext w w4) := E3.out.trans Q4.ext
    clear c3 c4 c5 Hs Hd P3 Q3' HP HQ Q4 E3 hD
    go_wp2_with fail
    refine k5.mono ?_
    rintro e w5 ⟨rfl, Q5⟩
    have E5 : Hid (Ext w w5) := E4.out.trans Q5.ext
    clear k5 Q5 E4
    go_wp2
    go_ret
    exact ⟨rfl, E5.out⟩

theorem boseFar_walk (x y : Wd) (w : World) (hx : Bits w x) (hy : Bits w y) : Calls Try.prog 6 #[x.v, y.v] w fun e w' => e = .returned (.bool true) ∧ Ext w w' := by
  by_cases h : x.l.length = 7
  · by_cases h2 : y.l.length = 7
    · exact far_both x y h h2 w hx hy
    · exact far_second x y h h2 w hx
  · exact far_first x y h w hx hy

set_option maxRecDepth 100000 in
theorem boseFar_lifted (os : Os) (started : os.Started) (H : Type) (enc : TypeId × Value → H) :
    ReturnsInHanded {} Try.checked os 6 .any (Rows.boseFarSpec.pre6 enc Try.prog Try.f6 Rows.boseFarRow.domain false) (Rows.boseFarSpec.post enc Try.prog Try.f6 false true false false) := by
  refine returnsInHanded_of_change (C := Try.checked) own started (by kernel_rfl) Try.func6
    (ChangeSpec.witness6 (enc := enc) (C := Try.checked) false ⟨#[], #[.slice none 0 0, .slice none 0 0], []⟩ 8 (by kernel_rfl) (by kernel_rfl) (by kernel_rfl) (by kernel_rfl)) ?_
  intro W base args ds gs before hval0 hW _ _
  have hval : ∀ (j : Nat) t v, Try.f6.params[j]? = some t → args[j]? = some v → Value.okWide Try.prog W .any base t v := hval0
  have hW' := hW
  obtain ⟨p, q, hA0, hV, rfl, hfz, hnd⟩ := hW
  have hA : DataW.TrodAll enc Try.prog W 0 (fun _ => true) true Try.f6.params.toList args.toList ds p := hA0
  rw [Try.params6] at hA hval
  obtain ⟨v0, vs0, d0, ds0, p0, q0, hargs, rfl, rfl, h0, r0⟩ := trodAll_cons hA
  obtain ⟨v1, vs1, d1, ds1, p1, q1, rfl, rfl, rfl, h1, r1⟩ := trodAll_cons r0
  obtain ⟨rfl, rfl, rfl⟩ := trodAll_nil r1
  obtain rfl : args = #[v0, v1] := by cases args; simp_all
  obtain ⟨rfl, rfl⟩ := trodVars_none hV
  have lt0 : ∀ x ∈ p0, x.block < W.heap.size := by obtain ⟨m, hm⟩ := h0; exact DataW.trod_lt m _ _ _ hm
  obtain ⟨x0, rfl, w0⟩ := open_word (hval 0 22 v0 rfl rfl) h0
  have lt1 : ∀ x ∈ p1, x.block < W.heap.size := by obtain ⟨m, hm⟩ := h1; exact DataW.trod_lt m _ _ _ hm
  obtain ⟨x1, rfl, w1⟩ := open_word (hval 1 22 v1 rfl rfl) h1
  clear hA0 hval0
  refine (boseFar_walk x0 x1 W w0 w1).mono fun e W' ⟨he, bel⟩ => ?_
  subst he
  exact ⟨_, rfl, _, _, _, [], _, [], hW', trodAll_mk1 (shut_bool Try.underlying4 _), (trodAll_cons_mk (Below.trod laidOut (by kernel_rfl) (of_decide_eq_true (by kernel_rfl)) h0 bel lt0) (trodAll_cons_mk (Below.trod laidOut (by kernel_rfl) (of_decide_eq_true (by kernel_rfl)) h1 bel lt1) trodAll_mk0)), rfl, bel.frame _, fun h => by cases h⟩

theorem boseFar_holds : Rows.BoseFarSaid :=
  OpenClaim.holds_of_wide 6 Try.f6 rfl rfl rfl rfl rfl rfl rfl ⟨rfl, rfl, rfl, rfl, rfl⟩ rfl rfl rfl rfl rfl (by kernel_rfl) Try.func6 (by kernel_rfl)
    (of_decide_eq_true (by kernel_rfl)) (by unfold Func.isWrapper; rw [if_neg (of_decide_eq_false (by kernel_rfl))]; exact ⟨rfl, rfl⟩)
    (fun os started H enc _ => boseFar_lifted os started H enc)

#print axioms boseFar_holds

end Go.Proofs.Ytfngcoijbnhheaa
