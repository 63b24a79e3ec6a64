/-
  For any data and any two places: with one bit turned they are told, with two it is told that two were: HammTwo returns true for every number, every list of bits and every two bytes, and changes nothing.
-/
import Derived.Test.YtdplmaofapnhhaaOpen
import Derived.Test.YtdplmaofapnhhaaFac
import Derived.Test.YtdplmaofapnhhaaTrn
import Derived.Test.YtdplmaofapnhhaaLw
namespace Go.Proofs.Ytdplmaofapnhhaa
open Go.ChangeShapes Go.WideShapes Go.ChangeAt Go.RowKit Go.Deep
set_option linter.unusedVariables false

theorem hammTwo_bad (r : Int) (x : Wd) (k j : Int) (w : World) (h : cke r x.l.length (-r) ≠ 0) : Calls Try.prog 8 #[.int .i64 r, x.v, .int .u8 k, .int .u8 j] w fun e w' => e = .returned (.bool true) ∧ Ext w w' := by
  have c1 := Put2_bad r x h w
  have hb : (cke r x.l.length (-r) == 0) = false := beq_eq_false_iff_ne.2 h
  by_cases hr : 2 ≤ r ∧ r ≤ 4
  · obtain ⟨m, rfl⟩ := Int.eq_ofNat_of_zero_le (show 0 ≤ r by omega)
    have hm : R m := by unfold R; omega
    have pw := pow_five m hm
    have hne0 : (x.l.length : Int) ≠ ((2 ^ m - 1 : Nat) : Int) - (m : Int) := fun e => h (cke_good hm (by
      have : 1 ≤ 2 ^ m := Nat.two_pow_pos m
      omega))
    have hne : ((x.l.length : Int) != ((2 ^ m - 1 : Nat) : Int) - (m : Int)) = true := bne_iff_ne.2 hne0
    have h15 : 2 ^ m - 1 ≤ 15 := by obtain rfl | rfl | rfl := hm.cases <;> decide
    have hE : Hid (cke (m : Int) x.l.length (-(m : Int)) ≠ 0) := h
    generalize cke (m : Int) x.l.length (-(m : Int)) = E at *
    simp only [Wd.v] at *
    generalize 2 ^ m - 1 = n at *
    clear hm h
    go_enter Try.func8, Try.ntmps8
    go_wp2_with fail
    refine c1.mono ?_
    rintro e w1 ⟨rfl, rfl⟩
    clear c1
    go_wp2
    go_ret
    exact ⟨ret_bool (bne_iff_ne.2 hE.out), Ext.refl _⟩
  · have hE : Hid (cke r x.l.length (-r) ≠ 0) := h
    generalize cke r x.l.length (-r) = E at *
    simp only [Wd.v] at *
    clear h
    rcases Int.lt_or_le r 2 with h' | h'
    · clear hr
      go_enter Try.func8, Try.ntmps8
      go_wp2_with fail
      refine c1.mono ?_
      rintro e w1 ⟨rfl, rfl⟩
      clear c1
      go_wp2
      go_ret
      exact ⟨ret_bool (bne_iff_ne.2 hE.out), Ext.refl _⟩
    · have h2 : 4 < r := by omega
      clear hr
      go_enter Try.func8, Try.ntmps8
      go_wp2_with fail
      refine c1.mono ?_
      rintro e w1 ⟨rfl, rfl⟩
      clear c1
      go_wp2
      go_ret
      exact ⟨ret_bool (bne_iff_ne.2 hE.out), Ext.refl _⟩

theorem take_tn {m : List Bool} {a n : Nat} (hn : n ≤ m.length) : (tn m a).take n = if a < n then tn (m.take n) a else m.take n := by
  unfold tn
  split
  · rename_i h
    rw [List.take_set]
    congr 2
    simp [h]
  · rename_i h
    rw [List.take_set, List.set_eq_of_length_le (by rw [List.length_take]; omega)]
theorem pf_take_tn {m : List Bool} {a n : Nat} (hn : n ≤ m.length) : pf 1 ((tn m a).take n) = pf 1 (m.take n) ^^^ (if a < n then a + 1 else 0) := by
  rw [take_tn hn]
  split
  · rename_i h
    show pf 1 ((m.take n).set a (!((m.take n).getD a false))) = _
    rw [pf_turn _ _ _ (by rw [List.length_take]; omega), Nat.add_comm 1 a]
  · rw [Nat.xor_zero]
theorem ob_tn {m : List Bool} {a : Nat} (ha : a < m.length) : ob (tn m a) = !ob m := ob_turn m a ha

/-- Bits with the one that makes their number even. -/
abbrev h2 (r : Nat) (d : List Bool) : List Bool := hp r d ++ [ob (hp r d)]
theorem h2_len (r : Nat) (d : List Bool) : (h2 r d).length = 2 ^ r - 1 + 1 := by rw [List.length_append, hp_len]; rfl
theorem h2_take (r : Nat) (d : List Bool) : (h2 r d).take (2 ^ r - 1) = hp r d := by rw [← hp_len r d]; exact List.take_left' rfl
theorem h2_ob (r : Nat) (d : List Bool) : ob (h2 r d) = false := by
  rw [ob_append]
  show (ob (hp r d) != (ob (hp r d) != false)) = false
  cases ob (hp r d) <;> rfl

theorem two_one {r : Nat} (hr : R r) (d : List Bool) (hd : d.length = 2 ^ r - 1 - r) (a : Nat) (ha : a < 2 ^ r - 1 + 1) : ob (tn (h2 r d) a) = true ∧ dt 1 (fx ((tn (h2 r d) a).take (2 ^ r - 1))) = d := by
  refine ⟨by rw [ob_tn (by rw [h2_len]; exact ha), h2_ob]; rfl, ?_⟩
  rw [take_tn (by rw [h2_len]; omega), h2_take]
  split
  · rename_i h
    have := (fx_turn hr d a h).2
    show dt 1 (fx ((hp r d).set a _)) = d
    rw [this, dt_hp hr d hd]
  · rw [fx_hp hr, dt_hp hr d hd]
theorem two_same {r : Nat} (hr : R r) (d : List Bool) (hd : d.length = 2 ^ r - 1 - r) (a : Nat) (ha : a < 2 ^ r - 1 + 1) : pf 1 ((tn (tn (h2 r d) a) a).take (2 ^ r - 1)) = 0 ∧ dt 1 (fx ((tn (tn (h2 r d) a) a).take (2 ^ r - 1))) = d := by
  have e : tn (tn (h2 r d) a) a = h2 r d := turn_turn _ _ (by rw [h2_len]; exact ha)
  rw [e, h2_take, fx_hp hr, dt_hp hr d hd]
  exact ⟨pf_hp hr d, rfl⟩
theorem two_two {r : Nat} (hr : R r) (d : List Bool) (a b : Nat) (ha : a < 2 ^ r - 1 + 1) (hb : b < 2 ^ r - 1 + 1) (hab : a ≠ b) : ob (tn (tn (h2 r d) a) b) = false ∧ pf 1 ((tn (tn (h2 r d) a) b).take (2 ^ r - 1)) ≠ 0 := by
  refine ⟨by rw [ob_tn (by rw [tn_len, h2_len]; exact hb), ob_tn (by rw [h2_len]; exact ha), h2_ob]; rfl, ?_⟩
  rw [pf_take_tn (by rw [tn_len, h2_len]; omega), pf_take_tn (by rw [h2_len]; omega), h2_take, pf_hp hr, Nat.zero_xor]
  intro e
  split at e
  · split at e
    · have e2 := congrArg (fun y => y ^^^ (b + 1)) e
      simp only [Nat.xor_assoc, Nat.xor_self, Nat.xor_zero, Nat.zero_xor] at e2
      omega
    · rw [Nat.xor_zero] at e
      omega
  · split at e
    · rw [Nat.zero_xor] at e
      omega
    · omega

set_option maxHeartbeats 4000000 in
theorem hammTwo_same {r : Nat} (hr : R r) (x : Wd) (k j : Nat) (hk : k < 256) (hj : j < 256) (w : World) (hd : x.l.length = 2 ^ r - 1 - r) (hx : Bits w x) (hab : k % (2 ^ r - 1 + 1) = j % (2 ^ r - 1 + 1)) : Calls Try.prog 8 #[.int .i64 r, x.v, .int .u8 k, .int .u8 j] w fun e w' => e = .returned (.bool true) ∧ Ext w w' := by
  have h15 : 3 ≤ 2 ^ r - 1 ∧ 2 ^ r - 1 ≤ 15 := by obtain rfl | rfl | rfl := hr.cases <;> decide
  have hr4 : 2 ≤ r ∧ r ≤ 4 := hr
  have c1 := Put2_good hr x hd w hx
  have pw := pow_five r hr
  have hm := rem_at k (2 ^ r - 1 + 1)
  have hi : k % (2 ^ r - 1 + 1) < 2 ^ r - 1 + 1 := Nat.mod_lt _ (by omega)
  have hm' := rem_at j (2 ^ r - 1 + 1)
  have hi' : j % (2 ^ r - 1 + 1) < 2 ^ r - 1 + 1 := Nat.mod_lt _ (by omega)
  obtain ⟨a, hia⟩ : ∃ a, k % (2 ^ r - 1 + 1) = a := ⟨_, rfl⟩
  obtain ⟨b, hib⟩ : ∃ b, j % (2 ^ r - 1 + 1) = b := ⟨_, rfl⟩
  rw [hia] at hm hi hab
  rw [hib] at hm' hi' hab
  rw [Int.natCast_add] at hm hm'
  have he : (k : Int) % (((2 ^ r - 1 : Nat) : Int) + 1) = (a : Int) := by rw [← hia, Int.natCast_emod]; rfl
  have he' : (j : Int) % (((2 ^ r - 1 : Nat) : Int) + 1) = (b : Int) := by rw [← hib, Int.natCast_emod]; rfl
  clear hia hib
  have FA : Hid (ob (tn (h2 r x.l) a) = true ∧ dt 1 (fx ((tn (h2 r x.l) a).take (2 ^ r - 1))) = x.l) := two_one hr x.l hd a hi
  subst hab
  have FB : Hid (pf 1 ((tn (tn (h2 r x.l) a) a).take (2 ^ r - 1)) = 0 ∧ dt 1 (fx ((tn (tn (h2 r x.l) a) a).take (2 ^ r - 1))) = x.l) := two_same hr x.l hd a hi
  have HL : Hid ((h2 r x.l).length = 2 ^ r - 1 + 1) := h2_len _ _
  have HT : Hid (∀ (z : Wd) W, z.l.length = 2 ^ r - 1 + 1 → Bits W z → Calls Try.prog 18 #[z.v, .slice (some ⟨W.heap.size, 0, none⟩) 1 1] (W.alloc (.cells #[.int .i64 (a : Nat)] 3)) fun e w' => ∃ v, e = .returned v ∧ OwnB W w' v (tn z.l a)) := fun z W h hb => turned_one z (by omega) (by omega) a (by omega) W hb
  have HT2 : Hid (∀ (z : Wd) W, z.l.length = 2 ^ r - 1 + 1 → Bits W z → Calls Try.prog 18 #[z.v, .slice (some ⟨W.heap.size, 0, none⟩) 2 2] (W.alloc (.cells #[.int .i64 (a : Nat), .int .i64 (a : Nat)] 3)) fun e w' => ∃ v, e = .returned v ∧ OwnB W w' v (tn (tn z.l a) a)) := fun z W h hb => turned_two z (by omega) (by omega) a a (by omega) (by omega) W hb
  have HF : Hid (∀ (z : Wd) W, z.l.length = 2 ^ r - 1 + 1 → ob z.l = true → Bits W z → Calls Try.prog 17 #[.int .i64 r, z.v] W fun e w' => ∃ v, e = .returned (.tuple #[v, .int .i64 (pf 1 (z.l.take (2 ^ r - 1)) : Nat), .int .i64 0]) ∧ OwnB W w' v (dt 1 (fx (z.l.take (2 ^ r - 1))))) := fun z W h ho hb => Fix2_odd hr z h _ rfl W hb ho
  have HG : Hid (∀ (z : Wd) W, z.l.length = 2 ^ r - 1 + 1 → pf 1 (z.l.take (2 ^ r - 1)) = 0 → Bits W z → Calls Try.prog 17 #[.int .i64 r, z.v] W fun e w' => ∃ v, e = .returned (.tuple #[v, .int .i64 0, .int .i64 0]) ∧ OwnB W w' v (dt 1 (fx (z.l.take (2 ^ r - 1))))) := fun z W h ho hb => Fix2_zero hr z h _ rfl W hb ho
  have BX : Hid (∀ (y : Wd) W, y.l = x.l → Bits W y → Ext w W → Calls Try.prog 11 #[y.v, .slice x.a (2 ^ r - 1 - r) x.c] W fun e w' => e = .returned (.bool true) ∧ Qt W w') := fun y W h hb e => by
    have := bools_any y x W hb (hx.ext e)
    rw [h, beq_self_eq_true] at this
    have hv : x.v = .slice x.a (2 ^ r - 1 - r) x.c := by rw [Wd.v, hd]
    rw [← hv]
    exact this
  have h1 := hx.1
  have h2' := hx.2.1
  simp only [Wd.v] at c1 ⊢
  rw [hd] at c1 h1 ⊢
  unfold maxLen at h2'
  have HD : Hid (((2 ^ r - 1 - r : Nat) : Int) = ((2 ^ r - 1 : Nat) : Int) - (r : Int)) := by
    have : r ≤ 2 ^ r - 1 := by obtain rfl | rfl | rfl := hr.cases <;> decide
    show _ = _
    omega
  clear hr
  have c1 : Calls Try.prog 15 #[.int .i64 r, .slice x.a (2 ^ r - 1 - r) x.c] w fun e w' => ∃ v, e = .returned (.tuple #[v, .int .i64 0]) ∧ OwnB w w' v (h2 r x.l) := c1
  generalize h2 r x.l = H at *
  generalize 2 ^ r - 1 = n at *
  have hDn := HD.out
  generalize n - r = D at *
  clear HD hx hd
  have hn1 : ((n + 1 : Nat) : Int) = (n : Int) + 1 := rfl
  go_enter Try.func8, Try.ntmps8
  go_wp2_with fail
  refine c1.mono ?_
  rintro e w1 ⟨v1, rfl, O1⟩
  obtain ⟨⟨a1, cc1, l1⟩, rfl, hl1, hb1⟩ := O1.bits
  simp only at hl1
  subst hl1
  have HB1 : Hid (Bits w1 ⟨a1, cc1, l1⟩) := hb1
  have E1 : Hid (Ext w w1) := O1.1
  have hcc1 : n + 1 ≤ cc1 := by rw [← HL.out]; exact hb1.1
  have hcc2 := hb1.2.1
  unfold maxLen at hcc2
  simp only [Wd.v]
  rw [HL.out]
  clear c1 O1 hb1
  have k2 := HT.out ⟨a1, cc1, l1⟩ w1 HL.out HB1.out
  simp only [Wd.v] at k2
  rw [HL.out] at k2
  go_wp2_with fail
  refine k2.mono ?_
  rintro e w2 ⟨v2, rfl, O2⟩
  obtain ⟨y2, rfl, hy2, hb2⟩ := O2.bits
  have k3 := HF.out y2 w2 (by rw [hy2, tn_len]; exact HL.out) (by rw [hy2]; exact FA.out.1) hb2
  rw [hy2] at k3
  have E2 : Hid (Ext w1 w2) := O2.1
  clear k2 O2 hb2 HT HF
  generalize y2.v = v2 at *
  clear hy2 y2
  generalize pf 1 ((tn l1 a).take n) = p1 at *
  go_wp2_with fail
  refine k3.mono ?_
  rintro e w3 ⟨v3, rfl, O3⟩
  obtain ⟨y3, rfl, hy3, hb3⟩ := O3.bits
  have E3 : Hid (Ext w1 w3) := E2.out.trans O3.1
  have k4 := BX.out y3 w3 (by rw [hy3]; exact FA.out.2) hb3 (E1.out.trans E3.out)
  clear k3 O3 hb3 hy3 E2
  generalize y3.v = v3 at *
  go_wp2_with fail
  refine k4.mono ?_
  rintro e w4 ⟨rfl, q4⟩
  have E4 : Hid (Ext w1 w4) := E3.out.trans q4.ext
  clear k4 q4 E3
  have k5 := HT2.out ⟨a1, cc1, l1⟩ w4 HL.out (HB1.out.ext E4.out)
  simp only [Wd.v] at k5
  rw [HL.out] at k5
  go_wp2_with fail
  refine k5.mono ?_
  rintro e w5 ⟨v5, rfl, O5⟩
  obtain ⟨y5, rfl, hy5, hb5⟩ := O5.bits
  have E5 : Hid (Ext w1 w5) := E4.out.trans O5.1
  have k6 := HG.out y5 w5 (by rw [hy5, tn_len, tn_len]; exact HL.out) (by rw [hy5]; exact FB.out.1) hb5
  rw [hy5] at k6
  clear k5 O5 hb5 HT2 E4 HG
  generalize y5.v = v5 at *
  clear hy5 y5
  go_wp2_with fail
  refine k6.mono ?_
  rintro e w6 ⟨v6, rfl, O6⟩
  obtain ⟨y6, rfl, hy6, hb6⟩ := O6.bits
  have E6 : Hid (Ext w w6) := (E1.out.trans E5.out).trans O6.1
  have k7 := BX.out y6 w6 (by rw [hy6]; exact FB.out.2) hb6 E6.out
  clear k6 O6 hb6 hy6 E5 E1 HB1 HL FA FB
  generalize y6.v = v6 at *
  go_wp2_with fail
  refine k7.mono ?_
  rintro e w7 ⟨rfl, q7⟩
  have E7 : Hid (Ext w w7) := E6.out.trans q7.ext
  clear k7 q7 E6
  go_wp2
  go_ret
  exact ⟨rfl, E7.out⟩

set_option maxHeartbeats 4000000 in
theorem hammTwo_other {r : Nat} (hr : R r) (x : Wd) (k j : Nat) (hk : k < 256) (hj : j < 256) (w : World) (hd : x.l.length = 2 ^ r - 1 - r) (hx : Bits w x) (hab : k % (2 ^ r - 1 + 1) ≠ j % (2 ^ r - 1 + 1)) : Calls Try.prog 8 #[.int .i64 r, x.v, .int .u8 k, .int .u8 j] w fun e w' => e = .returned (.bool true) ∧ Ext w w' := by
  have h15 : 3 ≤ 2 ^ r - 1 ∧ 2 ^ r - 1 ≤ 15 := by obtain rfl | rfl | rfl := hr.cases <;> decide
  have hr4 : 2 ≤ r ∧ r ≤ 4 := hr
  have c1 := Put2_good hr x hd w hx
  have pw := pow_five r hr
  have hm := rem_at k (2 ^ r - 1 + 1)
  have hi : k % (2 ^ r - 1 + 1) < 2 ^ r - 1 + 1 := Nat.mod_lt _ (by omega)
  have hm' := rem_at j (2 ^ r - 1 + 1)
  have hi' : j % (2 ^ r - 1 + 1) < 2 ^ r - 1 + 1 := Nat.mod_lt _ (by omega)
  obtain ⟨a, hia⟩ : ∃ a, k % (2 ^ r - 1 + 1) = a := ⟨_, rfl⟩
  obtain ⟨b, hib⟩ : ∃ b, j % (2 ^ r - 1 + 1) = b := ⟨_, rfl⟩
  rw [hia] at hm hi hab
  rw [hib] at hm' hi' hab
  rw [Int.natCast_add] at hm hm'
  have he : (k : Int) % (((2 ^ r - 1 : Nat) : Int) + 1) = (a : Int) := by rw [← hia, Int.natCast_emod]; rfl
  have he' : (j : Int) % (((2 ^ r - 1 : Nat) : Int) + 1) = (b : Int) := by rw [← hib, Int.natCast_emod]; rfl
  clear hia hib
  have FA : Hid (ob (tn (h2 r x.l) a) = true ∧ dt 1 (fx ((tn (h2 r x.l) a).take (2 ^ r - 1))) = x.l) := two_one hr x.l hd a hi
  have FB : Hid (ob (tn (tn (h2 r x.l) a) b) = false ∧ pf 1 ((tn (tn (h2 r x.l) a) b).take (2 ^ r - 1)) ≠ 0) := two_two hr x.l a b hi hi' hab
  have HL : Hid ((h2 r x.l).length = 2 ^ r - 1 + 1) := h2_len _ _
  have HT : Hid (∀ (z : Wd) W, z.l.length = 2 ^ r - 1 + 1 → Bits W z → Calls Try.prog 18 #[z.v, .slice (some ⟨W.heap.size, 0, none⟩) 1 1] (W.alloc (.cells #[.int .i64 (a : Nat)] 3)) fun e w' => ∃ v, e = .returned v ∧ OwnB W w' v (tn z.l a)) := fun z W h hb => turned_one z (by omega) (by omega) a (by omega) W hb
  have HT2 : Hid (∀ (z : Wd) W, z.l.length = 2 ^ r - 1 + 1 → Bits W z → Calls Try.prog 18 #[z.v, .slice (some ⟨W.heap.size, 0, none⟩) 2 2] (W.alloc (.cells #[.int .i64 (a : Nat), .int .i64 (b : Nat)] 3)) fun e w' => ∃ v, e = .returned v ∧ OwnB W w' v (tn (tn z.l a) b)) := fun z W h hb => turned_two z (by omega) (by omega) a b (by omega) (by omega) W hb
  have HF : Hid (∀ (z : Wd) W, z.l.length = 2 ^ r - 1 + 1 → ob z.l = true → Bits W z → Calls Try.prog 17 #[.int .i64 r, z.v] W fun e w' => ∃ v, e = .returned (.tuple #[v, .int .i64 (pf 1 (z.l.take (2 ^ r - 1)) : Nat), .int .i64 0]) ∧ OwnB W w' v (dt 1 (fx (z.l.take (2 ^ r - 1))))) := fun z W h ho hb => Fix2_odd hr z h _ rfl W hb ho
  have HG : Hid (∀ (z : Wd) W, z.l.length = 2 ^ r - 1 + 1 → pf 1 (z.l.take (2 ^ r - 1)) ≠ 0 → ob z.l = false → Bits W z → Calls Try.prog 17 #[.int .i64 r, z.v] W fun e w' => e = .returned (.tuple #[.slice none 0 0, .int .i64 0, .int .i64 8]) ∧ Ext W w') := fun z W h h0 ho hb => Fix2_even hr z h _ rfl W hb h0 ho
  have BX : Hid (∀ (y : Wd) W, y.l = x.l → Bits W y → Ext w W → Calls Try.prog 11 #[y.v, .slice x.a (2 ^ r - 1 - r) x.c] W fun e w' => e = .returned (.bool true) ∧ Qt W w') := fun y W h hb e => by
    have := bools_any y x W hb (hx.ext e)
    rw [h, beq_self_eq_true] at this
    have hv : x.v = .slice x.a (2 ^ r - 1 - r) x.c := by rw [Wd.v, hd]
    rw [← hv]
    exact this
  have h1 := hx.1
  have h2' := hx.2.1
  simp only [Wd.v] at c1 ⊢
  rw [hd] at c1 h1 ⊢
  unfold maxLen at h2'
  have HD : Hid (((2 ^ r - 1 - r : Nat) : Int) = ((2 ^ r - 1 : Nat) : Int) - (r : Int)) := by
    have : r ≤ 2 ^ r - 1 := by obtain rfl | rfl | rfl := hr.cases <;> decide
    show _ = _
    omega
  clear hr
  have c1 : Calls Try.prog 15 #[.int .i64 r, .slice x.a (2 ^ r - 1 - r) x.c] w fun e w' => ∃ v, e = .returned (.tuple #[v, .int .i64 0]) ∧ OwnB w w' v (h2 r x.l) := c1
  generalize h2 r x.l = H at *
  generalize 2 ^ r - 1 = n at *
  have hDn := HD.out
  generalize n - r = D at *
  clear HD hx hd
  have hn1 : ((n + 1 : Nat) : Int) = (n : Int) + 1 := rfl
  go_enter Try.func8, Try.ntmps8
  go_wp2_with fail
  refine c1.mono ?_
  rintro e w1 ⟨v1, rfl, O1⟩
  obtain ⟨⟨a1, cc1, l1⟩, rfl, hl1, hb1⟩ := O1.bits
  simp only at hl1
  subst hl1
  have HB1 : Hid (Bits w1 ⟨a1, cc1, l1⟩) := hb1
  have E1 : Hid (Ext w w1) := O1.1
  have hcc1 : n + 1 ≤ cc1 := by rw [← HL.out]; exact hb1.1
  have hcc2 := hb1.2.1
  unfold maxLen at hcc2
  simp only [Wd.v]
  rw [HL.out]
  clear c1 O1 hb1
  have k2 := HT.out ⟨a1, cc1, l1⟩ w1 HL.out HB1.out
  simp only [Wd.v] at k2
  rw [HL.out] at k2
  go_wp2_with fail
  refine k2.mono ?_
  rintro e w2 ⟨v2, rfl, O2⟩
  obtain ⟨y2, rfl, hy2, hb2⟩ := O2.bits
  have k3 := HF.out y2 w2 (by rw [hy2, tn_len]; exact HL.out) (by rw [hy2]; exact FA.out.1) hb2
  rw [hy2] at k3
  have E2 : Hid (Ext w1 w2) := O2.1
  clear k2 O2 hb2 HT HF
  generalize y2.v = v2 at *
  clear hy2 y2
  generalize pf 1 ((tn l1 a).take n) = p1 at *
  go_wp2_with fail
  refine k3.mono ?_
  rintro e w3 ⟨v3, rfl, O3⟩
  obtain ⟨y3, rfl, hy3, hb3⟩ := O3.bits
  have E3 : Hid (Ext w1 w3) := E2.out.trans O3.1
  have k4 := BX.out y3 w3 (by rw [hy3]; exact FA.out.2) hb3 (E1.out.trans E3.out)
  clear k3 O3 hb3 hy3 E2
  generalize y3.v = v3 at *
  go_wp2_with fail
  refine k4.mono ?_
  rintro e w4 ⟨rfl, q4⟩
  have E4 : Hid (Ext w1 w4) := E3.out.trans q4.ext
  clear k4 q4 E3
  have k5 := HT2.out ⟨a1, cc1, l1⟩ w4 HL.out (HB1.out.ext E4.out)
  simp only [Wd.v] at k5
  rw [HL.out] at k5
  go_wp2_with fail
  refine k5.mono ?_
  rintro e w5 ⟨v5, rfl, O5⟩
  obtain ⟨y5, rfl, hy5, hb5⟩ := O5.bits
  have E5 : Hid (Ext w1 w5) := E4.out.trans O5.1
  have k6 := HG.out y5 w5 (by rw [hy5, tn_len, tn_len]; exact HL.out) (by rw [hy5]; exact FB.out.2) (by rw [hy5]; exact FB.out.1) hb5
  have hne : ((a : Int) == (b : Int)) = false := beq_eq_false_iff_ne.2 (by omega)
  clear k5 O5 hb5 HT2 E4 HG
  generalize y5.v = v5 at *
  clear hy5 y5
  go_wp2_with fail
  refine k6.mono ?_
  rintro e w6 ⟨rfl, X6⟩
  have E6 : Hid (Ext w w6) := (E1.out.trans E5.out).trans X6
  clear k6 X6 E5 E1 HB1 HL FA FB BX
  go_wp2
  go_ret
  exact ⟨rfl, E6.out⟩

theorem hammTwo_walk (r : Int) (x : Wd) (k j : Int) (hk : (Lit.int .u8 k).wf = true) (hj : (Lit.int .u8 j).wf = true) (w : World) (hx : Bits w x) : Calls Try.prog 8 #[.int .i64 r, x.v, .int .u8 k, .int .u8 j] w fun e w' => e = .returned (.bool true) ∧ Ext w w' := by
  obtain ⟨h0, h1⟩ := u8_of hk
  obtain ⟨h0', h1'⟩ := u8_of hj
  by_cases h : cke r x.l.length (-r) = 0
  · obtain ⟨m, rfl, hr, hn⟩ := of_cke h
    obtain ⟨k, rfl⟩ := Int.eq_ofNat_of_zero_le h0
    obtain ⟨j, rfl⟩ := Int.eq_ofNat_of_zero_le h0'
    by_cases hab : k % (2 ^ m - 1 + 1) = j % (2 ^ m - 1 + 1)
    · exact hammTwo_same hr x k j (by omega) (by omega) w ((len_data hr).1 hn) hx hab
    · exact hammTwo_other hr x k j (by omega) (by omega) w ((len_data hr).1 hn) hx hab
  · exact hammTwo_bad r x k j w h

set_option maxRecDepth 100000 in
theorem hammTwo_lifted (os : Os) (started : os.Started) (H : Type) (enc : TypeId × Value → H) :
    ReturnsInHanded {} Try.checked os 8 .any (Rows.hammTwoSpec.pre6 enc Try.prog Try.f8 Rows.hammTwoRow.domain false) (Rows.hammTwoSpec.post enc Try.prog Try.f8 false true false false) := by
  refine returnsInHanded_of_change (C := Try.checked) own started (by kernel_rfl) Try.func8
    (ChangeSpec.witness6 (enc := enc) (C := Try.checked) false ⟨#[], #[.int .i64 0, .slice none 0 0, .int .u8 0, .int .u8 0], []⟩ 8 (by kernel_rfl) (by kernel_rfl) (by kernel_rfl) (by kernel_rfl)) ?_
  intro W base args ds gs before hval0 hW _ _
  have hval : ∀ (j : Nat) t v, Try.f8.params[j]? = some t → args[j]? = some v → Value.okWide Try.prog W .any base t v := hval0
  have hW' := hW
  obtain ⟨p, q, hA0, hV, rfl, hfz, hnd⟩ := hW
  have hA : DataW.TrodAll enc Try.prog W 0 (fun _ => true) true Try.f8.params.toList args.toList ds p := hA0
  rw [Try.params8] at hA hval
  obtain ⟨v0, vs0, d0, ds0, p0, q0, hargs, rfl, rfl, h0, r0⟩ := trodAll_cons hA
  obtain ⟨v1, vs1, d1, ds1, p1, q1, rfl, rfl, rfl, h1, r1⟩ := trodAll_cons r0
  obtain ⟨v2, vs2, d2, ds2, p2, q2, rfl, rfl, rfl, h2, r2⟩ := trodAll_cons r1
  obtain ⟨v3, vs3, d3, ds3, p3, q3, rfl, rfl, rfl, h3, r3⟩ := trodAll_cons r2
  obtain ⟨rfl, rfl, rfl⟩ := trodAll_nil r3
  obtain rfl : args = #[v0, v1, v2, v3] := by cases args; simp_all
  obtain ⟨rfl, rfl⟩ := trodVars_none hV
  have lt0 : ∀ x ∈ p0, x.block < W.heap.size := by obtain ⟨m, hm⟩ := h0; exact DataW.trod_lt m _ _ _ hm
  obtain ⟨x0, rfl, -, -, wf0⟩ := open_int Try.underlying3 (hval 0 3 v0 rfl rfl) h0
  have lt1 : ∀ x ∈ p1, x.block < W.heap.size := by obtain ⟨m, hm⟩ := h1; exact DataW.trod_lt m _ _ _ hm
  obtain ⟨x1, rfl, w1⟩ := open_word (hval 1 22 v1 rfl rfl) h1
  have lt2 : ∀ x ∈ p2, x.block < W.heap.size := by obtain ⟨m, hm⟩ := h2; exact DataW.trod_lt m _ _ _ hm
  obtain ⟨x2, rfl, -, -, wf2⟩ := open_int Try.underlying5 (hval 2 5 v2 rfl rfl) h2
  have lt3 : ∀ x ∈ p3, x.block < W.heap.size := by obtain ⟨m, hm⟩ := h3; exact DataW.trod_lt m _ _ _ hm
  obtain ⟨x3, rfl, -, -, wf3⟩ := open_int Try.underlying5 (hval 3 5 v3 rfl rfl) h3
  clear hA0 hval0
  refine (hammTwo_walk x0 x1 x2 x3 wf2 wf3 W w1).mono fun e W' ⟨he, bel⟩ => ?_
  subst he
  exact ⟨_, rfl, _, _, _, [], _, [], hW', trodAll_mk1 (shut_bool Try.underlying4 _), (trodAll_cons_mk (Below.trod laidOut (by kernel_rfl) (of_decide_eq_true (by kernel_rfl)) h0 bel lt0) (trodAll_cons_mk (Below.trod laidOut (by kernel_rfl) (of_decide_eq_true (by kernel_rfl)) h1 bel lt1) (trodAll_cons_mk (Below.trod laidOut (by kernel_rfl) (of_decide_eq_true (by kernel_rfl)) h2 bel lt2) (trodAll_cons_mk (Below.trod laidOut (by kernel_rfl) (of_decide_eq_true (by kernel_rfl)) h3 bel lt3) trodAll_mk0)))), rfl, bel.frame _, fun h => by cases h⟩

theorem hammTwo_holds : Rows.HammTwoSaid :=
  OpenClaim.holds_of_wide 8 Try.f8 rfl rfl rfl rfl rfl rfl rfl ⟨rfl, rfl, rfl, rfl, rfl⟩ rfl rfl rfl rfl rfl (by kernel_rfl) Try.func8 (by kernel_rfl)
    (of_decide_eq_true (by kernel_rfl)) (by unfold Func.isWrapper; rw [if_neg (of_decide_eq_false (by kernel_rfl))]; exact ⟨rfl, rfl⟩)
    (fun os started H enc _ => hammTwo_lifted os started H enc)

#print axioms hammTwo_holds

end Go.Proofs.Ytdplmaofapnhhaa
