/-
  hamm.Put, Fix, Put2, Fix2.
-/
import Derived.Test.YtdplmaofapnhhaaPut
import Derived.Test.YtdplmaofapnhhaaFix
namespace Go.Proofs.Ytdplmaofapnhhaa
open Go.RowKit
set_option linter.unusedVariables false

theorem len_data {r : Nat} (h : R r) {n : Nat} : (n : Int) = (2 ^ r : Nat) - 1 + -(r : Int) ↔ n = 2 ^ r - 1 - r := by
  obtain rfl | rfl | rfl := h.cases <;> (simp; omega)
theorem len_bits {r : Nat} (h : R r) {n : Nat} : (n : Int) = (2 ^ r : Nat) - 1 + 0 ↔ n = 2 ^ r - 1 := by
  obtain rfl | rfl | rfl := h.cases <;> (simp; omega)
theorem len_bits2 {r : Nat} (h : R r) {n : Nat} : (n : Int) = (2 ^ r : Nat) - 1 + 1 ↔ n = 2 ^ r - 1 + 1 := by
  obtain rfl | rfl | rfl := h.cases <;> (simp; omega)

theorem Put_bad (r : Int) (x : Wd) (h : cke r x.l.length (-r) ≠ 0) (w : World) :
    Calls Try.prog 9 #[.int .i64 r, x.v] w fun e w' => e = .returned (.tuple #[.slice none 0 0, .int .i64 (cke r x.l.length (-r))]) ∧ w' = w := by
  have c1 := checkData_any r x w
  have hb : (cke r x.l.length (-r) == 0) = false := beq_eq_false_iff_ne.2 h
  generalize cke r x.l.length (-r) = E at *
  simp only [Wd.v] at *
  go_enter Try.func9, Try.ntmps9
  go_wp2_with fail
  refine c1.mono ?_
  rintro e w1 ⟨rfl, rfl⟩
  clear c1
  go_wp2
  go_ret2
  exact ⟨rfl, rfl⟩

theorem Put_good {r : Nat} (hr : R r) (x : Wd) (hd : x.l.length = 2 ^ r - 1 - r) (w : World) (hx : Bits w x) :
    Calls Try.prog 9 #[.int .i64 r, x.v] w fun e w' => ∃ v, e = .returned (.tuple #[v, .int .i64 0]) ∧ OwnB w w' v (hp r x.l) := by
  have c1 := checkData_any r x w
  rw [cke_good hr ((len_data hr).2 hd)] at c1
  have c2 := hput_any hr x hd w hx
  simp only [Wd.v] at c1 c2 ⊢
  clear hx hd hr
  generalize hp r x.l = H at *
  go_enter Try.func9, Try.ntmps9
  go_wp2_with fail
  refine c1.mono ?_
  rintro e w1 ⟨rfl, rfl⟩
  clear c1
  go_wp2_with fail
  refine c2.mono ?_
  rintro e w2 ⟨v, rfl, O⟩
  have O' : Hid (OwnB w1 w2 v H) := O
  clear c2 O
  go_wp2
  go_ret2
  exact ⟨_, rfl, O'.out⟩

theorem Put2_bad (r : Int) (x : Wd) (h : cke r x.l.length (-r) ≠ 0) (w : World) :
    Calls Try.prog 15 #[.int .i64 r, x.v] w fun e w' => e = .returned (.tuple #[.slice none 0 0, .int .i64 (cke r x.l.length (-r))]) ∧ w' = w := by
  have c1 := checkData_any r x w
  have hb : (cke r x.l.length (-r) == 0) = false := beq_eq_false_iff_ne.2 h
  generalize cke r x.l.length (-r) = E at *
  simp only [Wd.v] at *
  go_enter Try.func15, Try.ntmps15
  go_wp2_with fail
  refine c1.mono ?_
  rintro e w1 ⟨rfl, rfl⟩
  clear c1
  go_wp2
  go_ret2
  exact ⟨rfl, rfl⟩

theorem Put2_good {r : Nat} (hr : R r) (x : Wd) (hd : x.l.length = 2 ^ r - 1 - r) (w : World) (hx : Bits w x) :
    Calls Try.prog 15 #[.int .i64 r, x.v] w fun e w' => ∃ v, e = .returned (.tuple #[v, .int .i64 0]) ∧ OwnB w w' v (hp r x.l ++ [ob (hp r x.l)]) := by
  have c1 := checkData_any r x w
  rw [cke_good hr ((len_data hr).2 hd)] at c1
  have c2 := hput_any hr x hd w hx
  have hl : (hp r x.l).length = 2 ^ r - 1 := hp_len _ _
  have h15 : 2 ^ r - 1 ≤ 15 := by obtain rfl | rfl | rfl := hr.cases <;> decide
  have hfl : Hid ((hp r x.l).length + 1 ≤ 140737488355328) := by show _ ≤ _; omega
  have HO : Hid (∀ (y : Wd) W, Bits W y → Calls Try.prog 27 #[y.v] W fun e w' => e = .returned (.bool (ob y.l)) ∧ Qt W w') := fun y W h => oddSet_any y W h
  simp only [Wd.v] at c1 c2 ⊢
  clear hx hd hl h15 hr
  generalize hp r x.l = H at *
  go_enter Try.func15, Try.ntmps15
  go_wp2_with fail
  refine c1.mono ?_
  rintro e w1 ⟨rfl, rfl⟩
  clear c1
  go_wp2_with fail
  refine c2.mono ?_
  rintro e w2 ⟨v, rfl, O⟩
  obtain ⟨y, rfl, hyl, hyb⟩ := O.bits
  have c3 := HO.out y w2 hyb
  rw [hyl] at c3
  have O' : Hid (OwnB w1 w2 y.v H) := O
  clear c2 O hyb HO
  generalize y.v = v at *
  obtain ⟨tb, htb⟩ : ∃ tb, ob H = tb := ⟨_, rfl⟩
  rw [htb] at c3
  have HT : Hid (ob H = tb) := htb
  clear htb
  go_wp2_with (first | (go_at_call 27; refine c3.mono ?_; rintro e w3 ⟨rfl, q3⟩; clear c3; have O2 : Hid (OwnB w1 w3 v H) := O'.out.ext q3.ext; clear q3) | (at_builtin; refine wpList_appendBit rfl _ _ rfl w1 _ v (by rfl) _ O2.out tb (by rfl) hfl.out ?_; intro v' w4 O3; have O3' : Hid (OwnB w1 w4 v' (H ++ [tb])) := O3; clear O3))
  go_ret2
  exact ⟨_, rfl, by rw [HT.out]; exact O3'.out⟩

theorem Fix_bad (r : Int) (x : Wd) (h : cke r x.l.length 0 ≠ 0) (w : World) :
    Calls Try.prog 13 #[.int .i64 r, x.v] w fun e w' => e = .returned (.tuple #[.slice none 0 0, .int .i64 0, .int .i64 (cke r x.l.length 0)]) ∧ w' = w := by
  have c1 := checkBits0_any r x w
  have hb : (cke r x.l.length 0 == 0) = false := beq_eq_false_iff_ne.2 h
  generalize cke r x.l.length 0 = E at *
  simp only [Wd.v] at *
  go_enter Try.func13, Try.ntmps13
  go_wp2_with fail
  refine c1.mono ?_
  rintro e w1 ⟨rfl, rfl⟩
  clear c1
  go_wp2
  go_ret3
  exact ⟨rfl, rfl⟩

theorem Fix_good {r : Nat} (hr : R r) (x : Wd) (hd : x.l.length = 2 ^ r - 1) (w : World) (hx : Bits w x) :
    Calls Try.prog 13 #[.int .i64 r, x.v] w fun e w' => ∃ v, e = .returned (.tuple #[v, .int .i64 (pf 1 x.l : Nat), .int .i64 0]) ∧ OwnB w w' v (dt 1 (fx x.l)) := by
  have c1 := checkBits0_any r x w
  rw [cke_good hr ((len_bits hr).2 hd)] at c1
  have h15 : 1 ≤ 2 ^ r - 1 ∧ 2 ^ r - 1 ≤ 15 := by obtain rfl | rfl | rfl := hr.cases <;> decide
  have hpl := pf_lt r x.l 1 (by omega)
  have c2 := hfix_any x (by omega) (by omega) (by omega) w hx
  simp only [Wd.v] at c1 c2 ⊢
  clear hpl h15 hx hd hr
  generalize pf 1 x.l = p at *
  generalize dt 1 (fx x.l) = D at *
  go_enter Try.func13, Try.ntmps13
  go_wp2_with fail
  refine c1.mono ?_
  rintro e w1 ⟨rfl, rfl⟩
  clear c1
  go_wp2_with fail
  refine c2.mono ?_
  rintro e w2 ⟨v, rfl, O⟩
  have O' : Hid (OwnB w1 w2 v D) := O
  clear c2 O
  go_wp2
  go_ret3
  exact ⟨_, rfl, O'.out⟩

theorem Fix2_bad (r : Int) (x : Wd) (h : cke r x.l.length 1 ≠ 0) (w : World) :
    Calls Try.prog 17 #[.int .i64 r, x.v] w fun e w' => e = .returned (.tuple #[.slice none 0 0, .int .i64 0, .int .i64 (cke r x.l.length 1)]) ∧ w' = w := by
  have c1 := checkBits1_any r x w
  have hb : (cke r x.l.length 1 == 0) = false := beq_eq_false_iff_ne.2 h
  generalize cke r x.l.length 1 = E at *
  simp only [Wd.v] at *
  go_enter Try.func17, Try.ntmps17
  go_wp2_with fail
  refine c1.mono ?_
  rintro e w1 ⟨rfl, rfl⟩
  clear c1
  go_wp2
  go_ret3
  exact ⟨rfl, rfl⟩

/-- The first bits of a list of bits. -/
theorem Bits.front {w : World} {x : Wd} (h : Bits w x) {n : Nat} (hn : n ≤ x.l.length) : Bits w ⟨x.a, x.c, x.l.take n⟩ := by
  obtain ⟨h1, h2, h3, b, o, h4, h5⟩ := h
  have hl : (x.l.take n).length = n := by rw [List.length_take]; omega
  refine ⟨by show (x.l.take n).length ≤ x.c; omega, h2, h3, b, o, fun h0 => h4 (by simp only [hl] at h0; omega), fun i hi => ?_⟩
  simp only [hl] at hi
  rw [h5 i (by omega)]
  simp only [List.getD_eq_getElem?_getD, List.getElem?_take, hi, if_true]

set_option maxHeartbeats 1000000 in
theorem Fix2_zero {r : Nat} (hr : R r) (x : Wd) (hd : x.l.length = 2 ^ r - 1 + 1) (L : List Bool) (hL : L = x.l.take (2 ^ r - 1)) (w : World) (hx : Bits w x) (h0 : pf 1 L = 0) :
    Calls Try.prog 17 #[.int .i64 r, x.v] w fun e w' => ∃ v, e = .returned (.tuple #[v, .int .i64 0, .int .i64 0]) ∧ OwnB w w' v (dt 1 (fx L)) := by
  have c1 := checkBits1_any r x w
  rw [cke_good hr ((len_bits2 hr).2 hd)] at c1
  have h15 : 1 ≤ 2 ^ r - 1 ∧ 2 ^ r - 1 ≤ 15 := by obtain rfl | rfl | rfl := hr.cases <;> decide
  have hl : L.length = 2 ^ r - 1 := by rw [hL, List.length_take]; omega
  have hpl := pf_lt r L 1 (by omega)
  have hb : Bits w ⟨x.a, x.c, L⟩ := by rw [hL]; exact hx.front (by omega)
  have c2 := hfix_any ⟨x.a, x.c, L⟩ (by show 0 < L.length; omega) (by show L.length ≤ 15; omega) (by show pf 1 L ≤ L.length; omega) w hb
  have c3 : Hid (∀ W, Ext w W → Calls Try.prog 27 #[x.v] W fun e w' => e = .returned (.bool (ob x.l)) ∧ Qt W w') := fun W e => oddSet_any x W (hx.ext e)
  have h1 := hx.1
  have h2 := hx.2.1
  simp only [Wd.v] at c1 c2 c3 ⊢
  rw [hl] at c2
  rw [hd] at c1 c3 h1 ⊢
  unfold maxLen at h2
  clear hpl hx hd hr hb hL hl
  generalize 2 ^ r - 1 = n at *
  generalize pf 1 L = p at *
  generalize dt 1 (fx L) = D at *
  generalize ob x.l = tb at *
  go_enter Try.func17, Try.ntmps17
  go_wp2_with fail
  refine c1.mono ?_
  rintro e w1 ⟨rfl, rfl⟩
  clear c1
  have hn1 : n ≤ x.c := by omega
  go_wp2_with fail
  refine c2.mono ?_
  rintro e w2 ⟨v, rfl, O⟩
  have O' : Hid (OwnB w1 w2 v D) := O
  have c3' := c3.out w2 O.1
  clear c2 c3 O
  subst h0
  go_wp2
  go_ret3
  exact ⟨_, rfl, O'.out⟩

set_option maxHeartbeats 1000000 in
theorem Fix2_odd {r : Nat} (hr : R r) (x : Wd) (hd : x.l.length = 2 ^ r - 1 + 1) (L : List Bool) (hL : L = x.l.take (2 ^ r - 1)) (w : World) (hx : Bits w x) (ho : ob x.l = true) :
    Calls Try.prog 17 #[.int .i64 r, x.v] w fun e w' => ∃ v, e = .returned (.tuple #[v, .int .i64 (pf 1 L : Nat), .int .i64 0]) ∧ OwnB w w' v (dt 1 (fx L)) := by
  have c1 := checkBits1_any r x w
  rw [cke_good hr ((len_bits2 hr).2 hd)] at c1
  have h15 : 1 ≤ 2 ^ r - 1 ∧ 2 ^ r - 1 ≤ 15 := by obtain rfl | rfl | rfl := hr.cases <;> decide
  have hl : L.length = 2 ^ r - 1 := by rw [hL, List.length_take]; omega
  have hpl := pf_lt r L 1 (by omega)
  have hb : Bits w ⟨x.a, x.c, L⟩ := by rw [hL]; exact hx.front (by omega)
  have c2 := hfix_any ⟨x.a, x.c, L⟩ (by show 0 < L.length; omega) (by show L.length ≤ 15; omega) (by show pf 1 L ≤ L.length; omega) w hb
  have c3 : Hid (∀ W, Ext w W → Calls Try.prog 27 #[x.v] W fun e w' => e = .returned (.bool (ob x.l)) ∧ Qt W w') := fun W e => oddSet_any x W (hx.ext e)
  have h1 := hx.1
  have h2 := hx.2.1
  simp only [Wd.v] at c1 c2 c3 ⊢
  rw [hl] at c2
  rw [hd] at c1 c3 h1 ⊢
  unfold maxLen at h2
  clear hpl hx hd hr hb hL hl
  generalize 2 ^ r - 1 = n at *
  generalize pf 1 L = p at *
  generalize dt 1 (fx L) = D at *
  generalize ob x.l = tb at *
  go_enter Try.func17, Try.ntmps17
  go_wp2_with fail
  refine c1.mono ?_
  rintro e w1 ⟨rfl, rfl⟩
  clear c1
  have hn1 : n ≤ x.c := by omega
  go_wp2_with fail
  refine c2.mono ?_
  rintro e w2 ⟨v, rfl, O⟩
  have O' : Hid (OwnB w1 w2 v D) := O
  have c3' := c3.out w2 O.1
  clear c2 c3 O
  subst ho
  by_cases h0 : p = 0
  · subst h0
    go_wp2
    go_ret3
    exact ⟨_, rfl, O'.out⟩
  · have hne : ((p : Int) == 0) = false := beq_eq_false_iff_ne.2 (by omega)
    go_wp2_with fail
    refine c3'.mono ?_
    rintro e w3 ⟨rfl, q3⟩
    have O2 : Hid (OwnB w1 w3 v D) := O'.out.ext q3.ext
    clear c3' q3 O'
    go_wp2
    go_ret3
    exact ⟨_, rfl, O2.out⟩

set_option maxHeartbeats 1000000 in
theorem Fix2_even {r : Nat} (hr : R r) (x : Wd) (hd : x.l.length = 2 ^ r - 1 + 1) (L : List Bool) (hL : L = x.l.take (2 ^ r - 1)) (w : World) (hx : Bits w x) (h0 : pf 1 L ≠ 0) (ho : ob x.l = false) :
    Calls Try.prog 17 #[.int .i64 r, x.v] w fun e w' => e = .returned (.tuple #[.slice none 0 0, .int .i64 0, .int .i64 8]) ∧ Ext w w' := by
  have c1 := checkBits1_any r x w
  rw [cke_good hr ((len_bits2 hr).2 hd)] at c1
  have h15 : 1 ≤ 2 ^ r - 1 ∧ 2 ^ r - 1 ≤ 15 := by obtain rfl | rfl | rfl := hr.cases <;> decide
  have hl : L.length = 2 ^ r - 1 := by rw [hL, List.length_take]; omega
  have hpl := pf_lt r L 1 (by omega)
  have hb : Bits w ⟨x.a, x.c, L⟩ := by rw [hL]; exact hx.front (by omega)
  have c2 := hfix_any ⟨x.a, x.c, L⟩ (by show 0 < L.length; omega) (by show L.length ≤ 15; omega) (by show pf 1 L ≤ L.length; omega) w hb
  have c3 : Hid (∀ W, Ext w W → Calls Try.prog 27 #[x.v] W fun e w' => e = .returned (.bool (ob x.l)) ∧ Qt W w') := fun W e => oddSet_any x W (hx.ext e)
  have h1 := hx.1
  have h2 := hx.2.1
  simp only [Wd.v] at c1 c2 c3 ⊢
  rw [hl] at c2
  rw [hd] at c1 c3 h1 ⊢
  unfold maxLen at h2
  clear hpl hx hd hr hb hL hl
  generalize 2 ^ r - 1 = n at *
  generalize pf 1 L = p at *
  generalize dt 1 (fx L) = D at *
  generalize ob x.l = tb at *
  go_enter Try.func17, Try.ntmps17
  go_wp2_with fail
  refine c1.mono ?_
  rintro e w1 ⟨rfl, rfl⟩
  clear c1
  have hn1 : n ≤ x.c := by omega
  go_wp2_with fail
  refine c2.mono ?_
  rintro e w2 ⟨v, rfl, O⟩
  have O' : Hid (OwnB w1 w2 v D) := O
  have c3' := c3.out w2 O.1
  clear c2 c3 O
  subst ho
  have hne : ((p : Int) == 0) = false := beq_eq_false_iff_ne.2 (by omega)
  go_wp2_with fail
  refine c3'.mono ?_
  rintro e w3 ⟨rfl, q3⟩
  have O2 : Hid (Ext w1 w3) := O'.out.1.trans q3.ext
  clear c3' q3 O'
  go_wp2
  go_ret3
  exact ⟨rfl, O2.out⟩

end Go.Proofs.Ytdplmaofapnhhaa
