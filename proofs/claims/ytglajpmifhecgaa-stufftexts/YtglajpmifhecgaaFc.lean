/-
  quipuref.Bared; stuff.flagIn.
-/
import Derived.Test.YtglajpmifhecgaaFb
namespace Go.Proofs.Ytglajpmifhecgaa
open Go.RowKit
set_option linter.unusedVariables false

theorem sf_ge : ∀ (l : List Bool) (r : Nat), l.length ≤ (sf r l).length
  | [], r => Nat.zero_le _
  | b :: l, r => by
    by_cases h : r < 5
    · have := sf_ge l (lr r b)
      rw [sf_low h, List.length_cons, List.length_cons]; omega
    · have := sf_ge l (lr 0 b)
      rw [sf_owed (by omega), sf_low (by omega), List.length_cons, List.length_cons, List.length_cons]; omega
/-- Behind what is made of the first bits stands what is made of the others. -/
theorem sf_app : ∀ (T : List Bool) (r : Nat), r ≤ 5 → ∃ q, q < 5 ∧ ∀ u, sf r (T ++ u) = sf r T ++ sf q u
  | [], r, hr => by
    by_cases h : r < 5
    · exact ⟨r, h, fun u => by rw [sf_nil h]; rfl⟩
    · exact ⟨0, by omega, fun u => by rw [List.nil_append, sf_owed (by omega), sf_owed (by omega) [], sf_nil (by omega)]; rfl⟩
  | b :: T, r, hr => by
    by_cases h : r < 5
    · obtain ⟨q, hq, hu⟩ := sf_app T (lr r b) (lr_le h b)
      exact ⟨q, hq, fun u => by rw [List.cons_append, sf_low h, sf_low h, hu]; rfl⟩
    · obtain ⟨q, hq, hu⟩ := sf_app T (lr 0 b) (lr_le (r := 0) (by omega) b)
      exact ⟨q, hq, fun u => by rw [List.cons_append, sf_owed (r := r) (by omega) (b :: (T ++ u)), sf_owed (r := r) (by omega) (b :: T), sf_low (r := 0) (by omega) b (T ++ u), sf_low (r := 0) (by omega) b T, hu]; rfl⟩
theorem sf_pre : ∀ (T t : List Bool) (r : Nat), r ≤ 5 → sf r T <+: sf r t → T <+: t
  | [], t, r, hr, h => List.nil_prefix
  | b :: T, [], r, hr, h => by
    by_cases h5 : r < 5
    · rw [sf_low h5, sf_nil h5] at h
      have := h.length_le
      simp at this
    · rw [sf_owed (r := r) (by omega) (b :: T), sf_low (r := 0) (by omega) b T, sf_owed (r := r) (by omega) [], sf_nil (r := 0) (by omega)] at h
      have := h.length_le
      simp at this
  | b :: T, c :: t, r, hr, h => by
    by_cases h5 : r < 5
    · rw [sf_low h5, sf_low h5, List.cons_prefix_cons] at h
      obtain ⟨rfl, h⟩ := h
      rw [List.cons_prefix_cons]
      exact ⟨rfl, sf_pre T t _ (lr_le h5 b) h⟩
    · rw [sf_owed (r := r) (by omega) (b :: T), sf_low (r := 0) (by omega) b T, sf_owed (r := r) (by omega) (c :: t), sf_low (r := 0) (by omega) c t, List.cons_prefix_cons, List.cons_prefix_cons] at h
      obtain ⟨_, rfl, h⟩ := h
      rw [List.cons_prefix_cons]
      exact ⟨rfl, sf_pre T t _ (lr_le (r := 0) (by omega) b) h⟩
/-- What the reference's search loses. -/
theorem bare_lost {T l : List Bool} (h : sf 0 T <+: l) (hl : (sf 0 T).length < l.length) (hn : ¬ sf 0 (T ++ [l.getD (sf 0 T).length false]) <+: l) : br 0 l = none := by
  rcases ho : br 0 l with - | t
  · rfl
  · exfalso
    have e := (br_iff _ _ _).1 ho
    rw [← e] at h hl hn
    obtain ⟨u, rfl⟩ := sf_pre T t 0 (by omega) h
    obtain ⟨q, hq, hu⟩ := sf_app T 0 (by omega)
    cases u with
    | nil => rw [List.append_nil] at hl; omega
    | cons c u =>
      apply hn
      rw [hu (c :: u), sf_low hq]
      have e1 : (sf 0 T ++ c :: sf (lr q c) u).getD (sf 0 T).length false = c := by
        rw [List.getD_eq_getElem?_getD, List.getElem?_append_right (Nat.le_refl _), Nat.sub_self]; rfl
      rw [e1, ← sf_low hq, ← hu (c :: u)]
      obtain ⟨q2, _, hu2⟩ := sf_app (T ++ [c]) 0 (by omega)
      have e2 : T ++ c :: u = T ++ [c] ++ u := by rw [List.append_assoc]; rfl
      rw [e2, hu2 u]
      exact List.prefix_append _ _
theorem bare_found {T l : List Bool} (h : sf 0 T <+: l) (hl : l.length ≤ (sf 0 T).length) : br 0 l = some T := by
  rw [br_iff]
  exact h.eq_of_length_le hl

theorem refStuffed_form (a : Option Addr) (c : Nat) (T : List Bool) (hl : T.length ≤ 10000) (w : World) (hx : Bits w ⟨a, c, T⟩) : Calls Try.prog 11 #[.slice a T.length c] w fun e w' => ∃ a1 c1, e = .returned (.slice a1 (sf 0 T).length c1) ∧ Bits w' ⟨a1, c1, sf 0 T⟩ ∧ Ext w w' := by
  refine (refStuffed_any ⟨a, c, T⟩ hl w hx).mono ?_
  rintro e w' ⟨v, rfl, O⟩
  obtain ⟨⟨a1, c1, l1⟩, rfl, e1, hb⟩ := O.bits
  simp only at e1
  subst e1
  exact ⟨a1, c1, rfl, hb, O.1⟩

set_option maxHeartbeats 2000000 in
/-- quipuref.Bared. -/
theorem refBared_any (x : Wd) (hl : x.l.length ≤ 1000) (w : World) (hx : Bits w x) : Calls Try.prog 13 #[x.v] w fun e w' => Ext w w' ∧ ((br 0 x.l = none ∧ e = .returned (.tuple #[.slice none 0 0, .bool false])) ∨ ∃ t v, br 0 x.l = some t ∧ e = .returned (.tuple #[v, .bool true]) ∧ OwnB w w' v t) := by
  have BG : Hid (∀ (y : Wd) W, Ext w W → Bits W y → Calls Try.prog 21 #[y.v, x.v] W fun e w' => e = .returned (.bool (y.l.isPrefixOf x.l)) ∧ Qt W w') := fun y W E hy => refBegins_any y x W hy (hx.ext E)
  obtain ⟨a, c, l⟩ := x
  obtain ⟨h1, h2, _, b, o, h4, h5⟩ := hx
  simp only at h1 h2 h4 h5 hl BG ⊢
  simp only [Wd.v] at BG ⊢
  obtain ⟨B, hB⟩ : ∃ B : Nat → Bool, ∀ k, B k = l.getD k false := ⟨_, fun _ => rfl⟩
  obtain ⟨P, hP⟩ : ∃ P : List Bool → Prop, ∀ T, P T ↔ sf 0 T <+: l := ⟨_, fun _ => Iff.rfl⟩
  have HC : Hid (∀ i, i < l.length → w.cell? ⟨b, o + i, none⟩ = some (.bool (B i))) := fun i hi => by rw [hB]; exact h5 i hi
  have P0 : Hid (P []) := by show P []; rw [hP]; exact List.nil_prefix
  have PL : Hid (∀ T, P T → (sf 0 T).length ≤ l.length ∧ T.length ≤ (sf 0 T).length) := fun T h => ⟨((hP T).1 h).length_le, sf_ge T 0⟩
  have PE : Hid (∀ T, P T → l.length ≤ (sf 0 T).length → br 0 l = some T) := fun T h h2 => bare_found ((hP T).1 h) h2
  have PN : Hid (∀ T, P T → (sf 0 T).length < l.length → ¬ P (T ++ [B (sf 0 T).length]) → br 0 l = none) := fun T h h2 h3 => bare_lost ((hP T).1 h) h2 (by rw [hP, hB] at h3; exact h3)
  have PG : Hid (∀ T q, (sf 0 T).length < (sf 0 (T ++ [q])).length) := fun T q => by
    obtain ⟨q2, hq2, hu⟩ := sf_app T 0 (by omega)
    rw [hu, sf_low hq2, List.length_append, List.length_cons]; omega
  have BG2 : Hid (∀ a1 c1 W T, Ext w W → Bits W ⟨a1, c1, sf 0 T⟩ → ∃ p, (p = true ↔ P T) ∧ Calls Try.prog 21 #[.slice a1 (sf 0 T).length c1, .slice a l.length c] W fun e w' => e = .returned (.bool p) ∧ Qt W w') := fun a1 c1 W T E hy => by
    refine ⟨(sf 0 T).isPrefixOf l, by rw [hP]; exact List.isPrefixOf_iff_prefix, ?_⟩
    exact BG.out ⟨a1, c1, sf 0 T⟩ W E hy
  clear h5 hB hP BG
  generalize br 0 l = U at *
  generalize l.length = n at *
  unfold maxLen at h2
  go_enter Try.func13, Try.ntmps13
  go_wp2
  go_loopg [4] n (fun gg s4 wr => ∃ (T : List Bool) (sv : Value), n - (sf 0 T).length ≤ gg ∧ sv = s4 ∧ Hid (P T) ∧ Aside (OwnB w wr sv T))
  case atStart => exact ⟨[], _, by omega, rfl, P0.out, OwnB.nil (Ext.refl _)⟩
  case round =>
    obtain ⟨T, s4, hgg, rfl, HP, OO⟩ := hrel
    obtain ⟨⟨xa, xc, xl⟩, rfl, hxl, hxb⟩ := OO.out.bits
    simp only at hxl
    subst hxl
    have O1 : Hid (OwnB w wr (.slice xa xl.length xc) xl) := OO.out
    have XB : Hid (Bits wr ⟨xa, xc, xl⟩) := hxb
    obtain ⟨pl1, pl2⟩ := PL.out xl HP.out
    have S1 : Hid (∀ W, Ext wr W → Calls Try.prog 11 #[.slice xa xl.length xc] W fun e w' => ∃ a1 c1, e = .returned (.slice a1 (sf 0 xl).length c1) ∧ Bits w' ⟨a1, c1, sf 0 xl⟩ ∧ Ext W w') := fun W E => refStuffed_form xa xc xl (by omega) W (XB.out.ext E)
    have pe := PE.out xl HP.out
    have pn := PN.out xl HP.out
    have pg := PG.out xl
    have XE : Hid (Ext w wr) := O1.out.1
    simp only [Wd.v]
    clear OO hxb PL PE PN PG P0 HP
    obtain ⟨m, hm⟩ : ∃ m, (sf 0 xl).length = m := ⟨_, rfl⟩
    rw [hm] at S1 pe pn pl1 pl2 hgg pg
    have HM : Hid ((sf 0 xl).length = m) := hm
    clear hm
    go_wp2_with fail
    refine (S1.out _ (Ext.refl _)).mono ?_
    rintro e w1 ⟨a1, c1, rfl, _, E1⟩
    have E1' : Hid (Ext wr w1) := E1
    clear E1
    by_cases hlt : m < n
    · have hltz : (m : Int) < (n : Int) := by omega
      obtain rfl := h4 (by omega)
      have hc := HC.out m hlt
      have pn' : Hid (¬ P (xl ++ [B m]) → U = none) := pn hlt
      clear pn pe HC
      obtain ⟨q, hq⟩ : ∃ q, B m = q := ⟨_, rfl⟩
      rw [hq] at hc pn'
      have pg' := pg q
      have HCC : Hid (w.cell? ⟨b, o + m, none⟩ = some (.bool q)) := hc
      clear hq pg hc
      have OE : Hid (OwnB w1 (w1.alloc (.cells #[] 4)) (.slice (some ⟨w1.heap.size, 0, none⟩) 0 0) []) := OwnB.empty w1
      have BE : Hid (Bits (w1.alloc (.cells #[] 4)) ⟨xa, xc, xl⟩) := XB.out.ext (E1'.out.trans ((Ext.refl w1).alloc _))
      have hfl : Hid (([] : List Bool).length + xl.length ≤ 140737488355328) := by show _ ≤ _; simp; omega
      have hfl2 : Hid (xl.length + 1 ≤ 140737488355328) := by show _ ≤ _; omega
      have mlt : m < 4000000000 := by omega
      go_wp2_with (at_builtin; refine wpList_appendBits rfl _ _ rfl w1 _ _ (by rfl) [] OE.out ⟨xa, xc, xl⟩ (by rfl) BE.out hfl.out ?_; intro v2 w2 O2)
      have O2' : Hid (OwnB w1 w2 v2 xl) := O2
      clear O2
      refine (S1.out _ (E1'.out.trans O2'.out.1)).mono ?_
      rintro e w3 ⟨a3, c3, rfl, _, E3⟩
      have O3' : Hid (OwnB w1 w3 v2 xl) := O2'.out.ext E3
      clear E3
      have e4 := (XE.out.trans (E1'.out.trans O3'.out.1)).cell HCC.out
      go_wp2_with (at_builtin; refine wpList_appendBit rfl _ _ rfl w1 w3 v2 (by rfl) xl O3'.out q (by rfl) hfl2.out ?_; intro v4 w4 O4)
      have O4' : Hid (OwnB w w4 v4 (xl ++ [q])) := OwnB.base (XE.out.trans E1'.out) O4
      clear O4 S1 OE BE O2' O3' XB O1
      obtain ⟨⟨a5, c5, l5⟩, rfl, e5, hb5⟩ := O4'.out.bits
      simp only at e5
      subst e5
      have SL : (xl ++ [q]).length = xl.length + 1 := by rw [List.length_append, List.length_singleton]
      simp only [Wd.v] at *
      have c6 := refStuffed_form a5 c5 (xl ++ [q]) (by omega) w4 hb5
      clear hb5
      generalize (xl ++ [q]).length = n5 at *
      have SL' : n5 ≤ 1001 := by omega
      clear SL
      refine c6.mono ?_
      rintro e w6 ⟨a6, k6, rfl, hb6, E6⟩
      have O6 : Hid (OwnB w w6 (.slice a5 n5 c5) (xl ++ [q])) := O4'.out.ext E6
      obtain ⟨p, hp, c7⟩ := BG2.out a6 k6 w6 (xl ++ [q]) O6.out.1 hb6
      obtain ⟨m6, hm6⟩ : ∃ m6, (sf 0 (xl ++ [q])).length = m6 := ⟨_, rfl⟩
      rw [hm6] at c7 pg' ⊢
      have HM6 : Hid ((sf 0 (xl ++ [q])).length = m6) := hm6
      have HPP : Hid (p = true ↔ P (xl ++ [q])) := hp
      clear hm6 hp hb6 E6 O4' c6
      go_wp2_with fail
      refine c7.mono ?_
      rintro e w7 ⟨rfl, Q7⟩
      have O7 : Hid (OwnB w w7 (.slice a5 n5 c5) (xl ++ [q])) := O6.out.ext Q7.ext
      clear c7 Q7 O6
      cases p
      · have hU : U = none := pn'.out (fun h => by have := HPP.out.2 h; cases this)
        subst hU
        clear pn'
        go_wp2
        go_ret2
        first | exact ⟨O7.out.1, rfl⟩ | exact ⟨O7.out.1, Or.inl ⟨rfl, rfl⟩⟩
      · have NP : Hid (P (xl ++ [q])) := HPP.out.1 rfl
        clear pn' HPP
        go_wp2
        go_roundg (n - m6)
        case measure => omega
        case rel => exact ⟨xl ++ [q], _, by rw [HM6.out]; omega, rfl, NP.out, O7.out⟩
    · have hU := pe (by omega)
      have hltz : ¬ (m : Int) < (n : Int) := by omega
      subst hU
      have O7 : Hid (OwnB w w1 (.slice xa xl.length xc) xl) := O1.out.ext E1'.out
      clear pe pn HC BG2
      go_wp2
      go_ret2
      first | exact ⟨O7.out.1, Or.inr ⟨xl, _, rfl, rfl, O7.out⟩⟩ | exact ⟨O7.out.1, O7.out⟩

/-- A part of a word. -/
theorem slice_mid {w : World} {x : Wd} (h : Bits w x) {i n : Nat} (hk : i + n ≤ x.l.length) (W : World) : (Instr.slice 22 x.v (some (.int .i64 i)) (some (.int .i64 ((i : Int) + (n : Int)))) none).run Try.prog W = .ok ((x.back i).front n).v W := by
  have h1 := h.1
  rw [Wd.v, run_slice_lh W 22 x.a x.l.length x.c elem22 .i64 .i64 (i : Int) ((i : Int) + (n : Int)) (by omega) (by omega) (by omega), sizeOf4]
  show Result.ok (sliced _ _ _ _ 1) W = _
  unfold sliced Wd.back Wd.front Wd.v
  have e : ((x.l.drop i).take n).length = n := by rw [List.length_take, List.length_drop]; omega
  simp only [e, Int.toNat_natCast, Nat.mul_one, show ((i : Int) + (n : Int)).toNat = i + n by omega, Nat.add_sub_cancel_left]
theorem flAt_iff (l : List Bool) (k : Nat) : flAt l k ↔ (fl == (l.drop k).take 8) = true := by
  rw [beq_iff_eq]
  exact List.prefix_iff_eq_take

set_option maxHeartbeats 2000000 in
/-- stuff.flagIn. -/
theorem flagIn_any (x : Wd) (w : World) (hx : Bits w x) : Calls Try.prog 31 #[x.v] w fun e w' => Ext w w' ∧ ∃ z : Int, e = .returned (.int .i64 z) ∧ ((z = -1 ∧ ∀ k, ¬ flAt x.l k) ∨ ∃ k : Nat, z = k ∧ flAt x.l k ∧ ∀ j, j < k → ¬ flAt x.l j) := by
  have SM : Hid (∀ (i : Nat) W, i + 8 ≤ x.l.length → (Instr.slice 22 (.slice x.a x.l.length x.c) (some (.int .i64 i)) (some (.int .i64 ((i : Int) + 8))) none).run Try.prog W = .ok (.slice ((x.back i).front 8).a 8 ((x.back i).front 8).c) W) := fun i W hi => by
    have := slice_mid hx hi W
    have e : ((x.l.drop i).take 8).length = 8 := by rw [List.length_take, List.length_drop]; omega
    rw [show ((x.back i).front 8).v = .slice ((x.back i).front 8).a ((x.l.drop i).take 8).length ((x.back i).front 8).c from rfl, e] at this
    exact this
  have EQ : Hid (∀ (i : Nat) W (a1 : Option Addr) (c1 : Nat), i + 8 ≤ x.l.length → Ext w W → Bits W ⟨a1, c1, fl⟩ → ∃ p, (p = true ↔ flAt x.l i) ∧ Calls Try.prog 33 #[.slice ((x.back i).front 8).a 8 ((x.back i).front 8).c, .slice a1 8 c1] W fun e w' => e = .returned (.bool p) ∧ Qt W w') := fun i W a1 c1 hi E hf => by
    refine ⟨(x.l.drop i).take 8 == fl, ?_, ?_⟩
    · rw [flAt_iff, Bool.beq_comm]
    · have := equal_any ((x.back i).front 8) ⟨a1, c1, fl⟩ W (((hx.back (k := i) (by omega)).front 8).ext E) hf
      have e : ((x.l.drop i).take 8).length = 8 := by rw [List.length_take, List.length_drop]; omega
      rw [show ((x.back i).front 8).v = .slice ((x.back i).front 8).a ((x.l.drop i).take 8).length ((x.back i).front 8).c from rfl, e] at this
      exact this
  have FL : Hid (∀ k, flAt x.l k → k + 8 ≤ x.l.length) := fun k h => flAt_le h
  have hm := hx.2.1
  have hm1 := hx.1
  unfold maxLen at hm
  clear hx
  simp only [Wd.v]
  generalize x.l.length = n at *
  generalize flAt x.l = F at *
  obtain ⟨A, hA⟩ : ∃ A : Nat → Option Addr, ∀ i, A i = ((x.back i).front 8).a := ⟨_, fun _ => rfl⟩
  obtain ⟨C, hC⟩ : ∃ C : Nat → Nat, ∀ i, C i = ((x.back i).front 8).c := ⟨_, fun _ => rfl⟩
  simp only [← hA, ← hC] at SM EQ
  generalize x.a = xa at *
  generalize x.c = xc at *
  clear hA hC
  have c1 := flag_any w
  go_enter Try.func31, Try.ntmps31
  go_wp2_with fail
  refine c1.mono ?_
  rintro e w1 ⟨v, rfl, O⟩
  clear c1
  obtain ⟨⟨fa, fc, l5⟩, rfl, e5, hb5⟩ := O.bits
  simp only at e5
  subst e5
  have E1 : Hid (Ext w w1) := O.1
  have B1 : Hid (Bits w1 ⟨fa, fc, fl⟩) := hb5
  clear O hb5
  simp only [Wd.v, show fl.length = 8 from rfl]
  go_wp2
  go_loopg [4, 12] n (fun gg _ s12 wr => ∃ k : Nat, k ≤ n ∧ n - k ≤ gg ∧ s12 = .int .i64 k ∧ Aside (∀ j, j < k → ¬ F j) ∧ Aside (Ext w1 wr))
  case atStart => exact ⟨0, Nat.zero_le _, by omega, rfl, fun j hj => absurd hj (Nat.not_lt_zero _), Ext.refl _⟩
  case round =>
    obtain ⟨k, hk, hgg, rfl, NF, EE⟩ := hrel
    have NF' : Hid (∀ j, j < k → ¬ F j) := NF.out
    have E2 : Hid (Ext w1 wr) := EE.out
    clear NF EE
    by_cases hlt : k + 8 ≤ n
    · have hltz : (k : Int) < (n : Int) - 8 + 1 := by omega
      have sm : ∀ W, (Instr.slice 22 (.slice xa n xc) (some (.int .i64 k)) (some (.int .i64 ((k : Int) + 8))) none).run Try.prog W = .ok (.slice (A k) 8 (C k)) W := fun W => SM.out k W hlt
      obtain ⟨p, hp, ce⟩ := EQ.out k wr fa fc hlt (E1.out.trans E2.out) (B1.out.ext E2.out)
      have HP : Hid (p = true ↔ F k) := hp
      clear hp SM EQ FL
      generalize A k = ak at *
      generalize C k = ck at *
      go_wp2_with fail
      refine ce.mono ?_
      rintro e w3 ⟨rfl, Q3⟩
      have E3 : Hid (Ext w1 w3) := E2.out.trans Q3.ext
      clear ce Q3 E2
      cases p
      · have HN : Hid (∀ j, j < k + 1 → ¬ F j) := fun j hj h => by
          rcases Nat.lt_succ_iff_lt_or_eq.1 hj with h' | rfl
          · exact NF'.out j h' h
          · have := HP.out.2 h; cases this
        clear HP NF'
        go_wp2
        go_roundg (n - (k + 1))
        case measure => omega
        case rel => exact ⟨k + 1, by omega, by omega, by go_num, HN.out, E3.out⟩
      · have HN : Hid (F k) := HP.out.1 rfl
        clear HP
        go_wp2
        go_ret
        exact ⟨E1.out.trans E3.out, _, rfl, Or.inr ⟨k, rfl, HN.out, NF'.out⟩⟩
    · have hltz : ¬ (k : Int) < (n : Int) - 8 + 1 := by omega
      have HN : Hid (∀ j, ¬ F j) := fun j h => NF'.out j (by have := FL.out j h; omega) h
      clear SM EQ FL NF'
      go_wp2
      go_ret
      exact ⟨E1.out.trans E2.out, _, rfl, Or.inl ⟨rfl, HN.out⟩⟩
end Go.Proofs.Ytglajpmifhecgaa
