/-
  quipuref.EvenGet; even.Turn, Put, Get.
-/
import Derived.Test.YtibedfdgkknoiaaRf
namespace Go.Proofs.Ytibedfdgkknoiaa
open Go.RowKit
set_option linter.unusedVariables false

theorem part_back {W : World} {ya : Option Addr} {yc : Nat} {d : List Bool} (h : Bits W ⟨ya, yc, d⟩) (e m : Nat) (hm : d.length = m) (he : e ≤ m) :
    ∃ yb yd, (∀ V, (Instr.slice 22 (.slice ya m yc) (some (.int .i64 (e : Nat))) none none).run Try.prog V = .ok (.slice yb (m - e) yd) V) ∧ Bits W ⟨yb, yd, d.drop e⟩ := by
  subst hm
  refine ⟨((⟨ya, yc, d⟩ : Wd).back e).a, ((⟨ya, yc, d⟩ : Wd).back e).c, fun V => ?_, h.back he⟩
  have := slice_back h he V
  rw [this]
  show Result.ok (Value.slice _ (d.drop e).length _) V = _
  rw [List.length_drop]
theorem part_front {W : World} {ya : Option Addr} {yc : Nat} {d : List Bool} (h : Bits W ⟨ya, yc, d⟩) (e m : Nat) (hm : d.length = m) (he : e ≤ m) :
    (∀ V, (Instr.slice 22 (.slice ya m yc) none (some (.int .i64 (e : Nat))) none).run Try.prog V = .ok (.slice ya e yc) V) ∧ Bits W ⟨ya, yc, d.take e⟩ := by
  subst hm
  refine ⟨fun V => ?_, h.front e⟩
  have := slice_front h he V
  rw [this]
  show Result.ok (Value.slice ya (d.take e).length yc) V = _
  rw [List.length_take, Nat.min_eq_left he]

theorem evenGet_short (x : Wd) (hl : x.l.length < 8) (w : World) : Calls Try.prog 15 #[x.v] w fun e w' => e = .returned (.tuple #[.slice none 0 0, .bool false]) ∧ w' = w := by
  simp only [Wd.v]
  generalize x.l.length = n at *
  have hz : ((n : Int) - 8) < 0 := by omega
  go_enter Try.func15, Try.ntmps15
  go_wp2
  go_ret2
  exact ⟨rfl, rfl⟩
theorem evenGet_odd (x : Wd) (h8 : 8 ≤ x.l.length) (hl : x.l.length ≤ 20) (h2 : x.l.length % 2 = 1) (w : World) : Calls Try.prog 15 #[x.v] w fun e w' => e = .returned (.tuple #[.slice none 0 0, .bool false]) ∧ w' = w := by
  simp only [Wd.v]
  obtain ⟨N, hN⟩ : ∃ N, N = x.l.length - 8 := ⟨_, rfl⟩
  have hN2 : ((x.l.length : Int) - 8) = (N : Int) := by omega
  have yz := rem2 N
  rw [show N % 2 = 1 by omega] at yz
  clear hN
  generalize x.l.length = n at *
  go_enter Try.func15, Try.ntmps15
  go_wp2
  go_ret2
  exact ⟨rfl, rfl⟩

set_option maxHeartbeats 2000000 in
theorem evenGet_even (x : Wd) (h8 : 8 ≤ x.l.length) (hl : x.l.length ≤ 20) (h2 : x.l.length % 2 = 0) (w : World) (hx : Bits w x) : Calls Try.prog 15 #[x.v] w fun e w' => ∃ v, e = .returned (.tuple #[v, .bool (gt x.l).isSome]) ∧ Ext w w' ∧ ∀ t, gt x.l = some t → OwnB w w' v t := by
  have hm1 := hx.1
  have hm2 := hx.2.1
  obtain ⟨a, c, l⟩ := x
  have HX : Hid (Bits w ⟨a, c, l⟩) := hx
  simp only at *
  simp only [Wd.v]
  unfold maxLen at hm2
  obtain ⟨N, hN⟩ : ∃ N, N = l.length - 8 := ⟨_, rfl⟩
  have gf := fun k => gt_found (k := k) h8 hl h2
  have gn := gt_none (l := l)
  rw [← hN] at gn
  simp only [← hN] at gf
  obtain ⟨T, hT⟩ : ∃ T : Nat → List Bool, ∀ k, T k = tt k (l.take N) := ⟨_, fun _ => rfl⟩
  have TL : ∀ k, (T k).length = N := fun k => by rw [hT, tt_len, List.length_take]; omega
  have GF : Hid (∀ k, pt (T k) = l → gt l = some (T k)) := fun k h => by rw [hT] at h ⊢; exact gf k h
  have GN : Hid ((∀ k, k ≤ N → pt (T k) ≠ l) → gt l = none) := fun h => gn fun k hk => by rw [← hT]; exact h k hk
  obtain ⟨sf, BF⟩ := part_front hx N l.length rfl (by omega)
  have tl : (l.take N).length = N := by rw [List.length_take]; omega
  have C1 : Hid (∀ (k : Nat) (W : World), k ≤ N → Ext w W → Calls Try.prog 21 #[.slice a N c, .int .i64 k] W fun e w' => ∃ v, e = .returned v ∧ OwnB W w' v (T k)) := fun k W hk E => by
    have h := turnedTo_any ⟨a, c, l.take N⟩ (by show (l.take N).length ≤ _; omega) k (by show _ ≤ (l.take N).length; omega) W (BF.ext E)
    simp only [Wd.v, tl, ← hT] at h
    exact h
  have C2 : Hid (∀ (k : Nat) (W : World) (y : Wd), y.l = T k → Bits W y → Calls Try.prog 13 #[y.v] W fun e w' => ∃ v, e = .returned v ∧ OwnB W w' v (pt (T k))) := fun k W y hy hb => by
    rw [← hy]
    exact evenPut_any y (by rw [hy, TL]; omega) (by rw [hy, TL]; omega) W hb
  have C3 : Hid (∀ (W : World) (z : Wd), Ext w W → Bits W z → Calls Try.prog 11 #[z.v, .slice a l.length c] W fun e w' => e = .returned (.bool (z.l == l)) ∧ Qt W w') := fun W z E hz => by
    exact bools_any z ⟨a, c, l⟩ W hz (HX.out.ext E)
  have yz := rem2 N
  rw [show N % 2 = 0 by omega] at yz
  have hN2 : ((l.length : Int) - 8) = (N : Int) := by omega
  have hNn : N ≤ 12 := by omega
  have hNl : N ≤ l.length := by omega
  clear hN gf gn hT TL BF tl hx h2 HX
  generalize gt l = G at *
  generalize l.length = n at *
  go_enter Try.func15, Try.ntmps15
  go_wp2
  go_loopg [5, 6] (N + 1) (fun gg s5 _ wr => ∃ k : Nat, k ≤ N + 1 ∧ N + 1 - k ≤ gg ∧ s5 = .int .i64 k ∧ Aside (Ext w wr) ∧ Aside (∀ j, j < k → pt (T j) ≠ l))
  case atStart => exact ⟨0, Nat.zero_le _, by omega, rfl, Ext.refl _, fun j hj => absurd hj (Nat.not_lt_zero _)⟩
  case round =>
    obtain ⟨k, hk, hgg, rfl, EE, AA⟩ := hrel
    have E1 : Hid (Ext w wr) := EE.out
    have A1 : Hid (∀ j, j < k → pt (T j) ≠ l) := AA.out
    clear EE AA
    by_cases hlt : k ≤ N
    · have hltz : (k : Int) ≤ (N : Int) := by omega
      have c1 := C1.out k wr hlt E1.out
      go_wp2_with fail
      refine c1.mono ?_
      rintro e w1 ⟨v, rfl, O⟩
      have O1 : Hid (OwnB w w1 v (T k)) := OwnB.base E1.out O
      obtain ⟨y, rfl, hy, hb⟩ := O.bits
      have c2 := C2.out k w1 y hy hb
      clear c1 O hb hy E1
      go_wp2_with fail
      refine c2.mono ?_
      rintro e w2 ⟨v, rfl, O⟩
      obtain ⟨z, rfl, hz, hb⟩ := O.bits
      have O2 : Hid (OwnB w w2 y.v (T k)) := O1.out.ext O.1
      have c3 := C3.out w2 z O2.out.1 hb
      rw [hz] at c3
      clear c2 O hb hz O1
      go_wp2_with fail
      refine c3.mono ?_
      rintro e w3 ⟨rfl, Q⟩
      have O3 : Hid (OwnB w w3 y.v (T k)) := O2.out.ext Q.ext
      clear c3 Q O2
      by_cases hp : pt (T k) = l
      · have hg := GF.out k hp
        rw [beq_iff_eq.2 hp]
        clear GF GN C1 C2 C3 A1 hp
        subst hg
        go_wp2
        go_ret2
        first | exact ⟨_, rfl, O3.out.1, fun t ht => (by injection ht with ht; subst ht; exact O3.out)⟩ | exact ⟨O3.out.1, fun t ht => (by injection ht with ht; subst ht; exact O3.out)⟩ | exact ⟨O3.out.1, O3.out⟩
      · have A2 : Hid (∀ j, j < k + 1 → pt (T j) ≠ l) := fun j hj => by
          rcases Nat.lt_succ_iff_lt_or_eq.1 hj with h | rfl
          · exact A1.out j h
          · exact hp
        rw [beq_eq_false_iff_ne.2 hp]
        have E3 : Hid (Ext w w3) := O3.out.1
        clear GF GN C1 C2 C3 A1 hp O3
        go_wp2
        go_roundg (N + 1 - (k + 1))
        case measure => omega
        case rel => exact ⟨k + 1, by omega, by omega, by go_num, E3.out, A2.out⟩
    · have hltz : ¬ (k : Int) ≤ (N : Int) := by omega
      have hg := GN.out fun j hj => A1.out j (by omega)
      subst hg
      clear GF GN C1 C2 C3 A1
      go_wp2
      go_ret2
      first | exact ⟨_, rfl, E1.out, fun t h => (by cases h)⟩ | exact ⟨⟨_, rfl⟩, E1.out⟩ | exact ⟨E1.out, fun t h => (by cases h)⟩ | exact E1.out
theorem evenGet_any (x : Wd) (hl : x.l.length ≤ 20) (w : World) (hx : Bits w x) : Calls Try.prog 15 #[x.v] w fun e w' => ∃ v, e = .returned (.tuple #[v, .bool (gt x.l).isSome]) ∧ Ext w w' ∧ ∀ t, gt x.l = some t → OwnB w w' v t := by
  by_cases h8 : x.l.length < 8
  · refine (evenGet_short x h8 w).mono ?_
    rintro e w1 ⟨rfl, rfl⟩
    rw [gt_short h8]
    exact ⟨_, rfl, Ext.refl _, fun t h => by cases h⟩
  · by_cases h2 : x.l.length % 2 = 0
    · exact evenGet_even x (by omega) hl h2 w hx
    · refine (evenGet_odd x (by omega) hl (by omega) w).mono ?_
      rintro e w1 ⟨rfl, rfl⟩
      rw [gt_odd h2]
      exact ⟨_, rfl, Ext.refl _, fun t h => by cases h⟩

theorem res3 {fn : Func} {p q r : Tmp} (h : fn.results = #[.tmp p, .tmp q, .tmp r]) (tmps : Array Value) (P : Program) (w : World) :
    (results fn tmps).run P w = .ok (.tuple #[tmps.getD p undef, tmps.getD q undef, tmps.getD r undef]) w := by
  simp [results, h]
theorem Turn_bad (x : Wd) (hc : ce x.l.length ≠ 0) (hm : x.l.length ≤ maxLen) (w : World) : Calls Try.prog 8 #[x.v] w fun e w' => e = .returned (.tuple #[.slice none 0 0, .int .i64 0, .int .i64 (ce x.l.length)]) ∧ w' = w := by
  have c1 := check_any x.a x.c x.l.length hm w
  have hz : (ce x.l.length == 0) = false := beq_eq_false_iff_ne.2 hc
  simp only [Wd.v]
  generalize ce x.l.length = z at *
  generalize x.l.length = n at *
  clear hc
  go_enter Try.func8, Try.ntmps8
  go_wp2_with fail
  refine c1.mono ?_
  rintro e w1 ⟨rfl, rfl⟩
  clear c1
  go_wp2
  exact bodyPost_ret (res3 rfl _ _ _) rfl ⟨rfl, rfl⟩
theorem Turn_good (x : Wd) (hl : x.l.length ≤ 12) (he : x.l.length % 2 = 0) (w : World) (hx : Bits w x) : Calls Try.prog 8 #[x.v] w fun e w' => ∃ v, e = .returned (.tuple #[v, .int .i64 (lk x.l : Nat), .int .i64 0]) ∧ OwnB w w' v (tt (lk x.l) x.l) := by
  have c1 := check_any x.a x.c x.l.length (Nat.le_trans hx.1 hx.2.1) w
  rw [ce_good hl he] at c1
  have c2 := least_any x (by omega) he w hx
  have c3 := turned_any x (by omega) (lk x.l) (lk_spec he).1 w hx
  have hk := (lk_spec he).1
  simp only [Wd.v] at *
  clear hx he
  generalize tt (lk x.l) x.l = T at *
  generalize lk x.l = K at *
  generalize x.l.length = n at *
  go_enter Try.func8, Try.ntmps8
  go_wp2_with fail
  refine c1.mono ?_
  rintro e w1 ⟨rfl, rfl⟩
  clear c1
  go_wp2_with fail
  refine c2.mono ?_
  rintro e w2 ⟨rfl, rfl⟩
  clear c2
  go_wp2_with fail
  refine c3.mono ?_
  rintro e w3 ⟨v, rfl, O⟩
  clear c3
  have O1 : Hid (OwnB w2 w3 v T) := O
  clear O
  go_wp2
  exact bodyPost_ret (res3 rfl _ _ _) rfl ⟨v, rfl, O1.out⟩
theorem Put_bad (x : Wd) (hc : ce x.l.length ≠ 0) (hm : x.l.length ≤ maxLen) (w : World) : Calls Try.prog 12 #[x.v] w fun e w' => e = .returned (.tuple #[.slice none 0 0, .int .i64 (ce x.l.length)]) ∧ w' = w := by
  have c1 := check_any x.a x.c x.l.length hm w
  have hz : (ce x.l.length == 0) = false := beq_eq_false_iff_ne.2 hc
  simp only [Wd.v]
  generalize ce x.l.length = z at *
  generalize x.l.length = n at *
  clear hc
  go_enter Try.func12, Try.ntmps12
  go_wp2_with fail
  refine c1.mono ?_
  rintro e w1 ⟨rfl, rfl⟩
  clear c1
  go_wp2
  go_ret2
  exact ⟨rfl, rfl⟩
theorem Put_good (x : Wd) (hl : x.l.length ≤ 12) (he : x.l.length % 2 = 0) (w : World) (hx : Bits w x) : Calls Try.prog 12 #[x.v] w fun e w' => ∃ v, e = .returned (.tuple #[v, .int .i64 0]) ∧ OwnB w w' v (pt x.l) := by
  have c1 := check_any x.a x.c x.l.length (Nat.le_trans hx.1 hx.2.1) w
  rw [ce_good hl he] at c1
  have c3 := put_any x (by omega) he w hx
  simp only [Wd.v] at *
  clear hx he
  generalize pt x.l = T at *
  generalize x.l.length = n at *
  go_enter Try.func12, Try.ntmps12
  go_wp2_with fail
  refine c1.mono ?_
  rintro e w1 ⟨rfl, rfl⟩
  clear c1
  go_wp2_with fail
  refine c3.mono ?_
  rintro e w3 ⟨v, rfl, O⟩
  clear c3
  have O1 : Hid (OwnB w1 w3 v T) := O
  clear O
  go_wp2
  go_ret2
  exact ⟨v, rfl, O1.out⟩

theorem Get_large (x : Wd) (hl : 20 < x.l.length) (hm : x.l.length ≤ maxLen) (w : World) : Calls Try.prog 14 #[x.v] w fun e w' => e = .returned (.tuple #[.slice none 0 0, .int .i64 1]) ∧ w' = w := by
  simp only [Wd.v]
  generalize x.l.length = n at *
  unfold maxLen at hm
  have hz : (n : Int) > 20 := by omega
  go_enter Try.func14, Try.ntmps14
  go_wp2
  go_ret2
  exact ⟨rfl, rfl⟩
theorem Get_short (x : Wd) (hl : x.l.length < 8) (w : World) : Calls Try.prog 14 #[x.v] w fun e w' => e = .returned (.tuple #[.slice none 0 0, .int .i64 3]) ∧ w' = w := by
  simp only [Wd.v]
  generalize x.l.length = n at *
  have hz : ¬ (n : Int) > 20 := by omega
  have hz2 : (n : Int) < 8 := by omega
  go_enter Try.func14, Try.ntmps14
  go_wp2
  go_ret2
  exact ⟨rfl, rfl⟩
theorem Get_odd (x : Wd) (h8 : 8 ≤ x.l.length) (hl : x.l.length ≤ 20) (h2 : x.l.length % 2 ≠ 0) (w : World) : Calls Try.prog 14 #[x.v] w fun e w' => e = .returned (.tuple #[.slice none 0 0, .int .i64 3]) ∧ w' = w := by
  simp only [Wd.v]
  generalize x.l.length = n at *
  have hz : ¬ (n : Int) > 20 := by omega
  have hz2 : ¬ (n : Int) < 8 := by omega
  have yz := rem2 n
  rw [show n % 2 = 1 by omega] at yz
  go_enter Try.func14, Try.ntmps14
  go_wp2
  go_ret2
  exact ⟨rfl, rfl⟩

set_option maxHeartbeats 1000000 in
theorem Get_over (x : Wd) (h8 : 8 ≤ x.l.length) (hl : x.l.length ≤ 20) (h2 : x.l.length % 2 = 0) (hC : ¬ cn (x.l.drop (x.l.length - 8)) 4 ≤ x.l.length - 8) (w : World) (hx : Bits w x) : Calls Try.prog 14 #[x.v] w fun e w' => e = .returned (.tuple #[.slice none 0 0, .int .i64 3]) ∧ Ext w w' := by
  have hm1 := hx.1
  have hm2 := hx.2.1
  obtain ⟨a, c, l⟩ := x
  have HX : Hid (Bits w ⟨a, c, l⟩) := hx
  simp only at *
  simp only [Wd.v]
  unfold maxLen at hm2
  obtain ⟨N, hN⟩ : ∃ N, N = l.length - 8 := ⟨_, rfl⟩
  rw [← hN] at hC
  obtain ⟨yb, yd, sb, BB⟩ := part_back hx N l.length rfl (by omega)
  rw [show l.length - N = 8 by omega] at sb
  have dl : (l.drop N).length = 8 := by rw [List.length_drop]; omega
  have c1 := countOf_any ⟨yb, yd, l.drop N⟩ dl w BB
  simp only [Wd.v, dl] at c1
  have cl := cn_low (l.drop N) 4
  generalize cn (l.drop N) 4 = C at *
  have yz := rem2 l.length
  rw [h2] at yz
  have hN2 : ((l.length : Int) - 8) = (N : Int) := by omega
  have hz : ¬ (l.length : Int) > 20 := by omega
  have hz2 : ¬ (l.length : Int) < 8 := by omega
  have hz3 : (C : Int) > (N : Int) := by omega
  have hNn : N ≤ 12 := by omega
  clear hN BB dl hx h2 HX
  generalize l.length = n at *
  go_enter Try.func14, Try.ntmps14
  go_wp2_with fail
  refine c1.mono ?_
  rintro e w1 ⟨rfl, rfl⟩
  clear c1
  go_wp2
  go_ret2
  exact ⟨rfl, Ext.refl _⟩

set_option maxHeartbeats 1000000 in
theorem Get_not (x : Wd) (h8 : 8 ≤ x.l.length) (hl : x.l.length ≤ 20) (h2 : x.l.length % 2 = 0) (hC : cn (x.l.drop (x.l.length - 8)) 4 ≤ x.l.length - 8) (hp : pt (tx x.l) ≠ x.l) (w : World) (hx : Bits w x) : Calls Try.prog 14 #[x.v] w fun e w' => e = .returned (.tuple #[.slice none 0 0, .int .i64 3]) ∧ Ext w w' := by
  have hm1 := hx.1
  have hm2 := hx.2.1
  obtain ⟨a, c, l⟩ := x
  have HX : Hid (Bits w ⟨a, c, l⟩) := hx
  simp only at *
  simp only [Wd.v]
  unfold maxLen at hm2
  obtain ⟨N, hN⟩ : ∃ N, N = l.length - 8 := ⟨_, rfl⟩
  rw [← hN] at hC
  obtain ⟨yb, yd, sb, BB⟩ := part_back hx N l.length rfl (by omega)
  rw [show l.length - N = 8 by omega] at sb
  have dl : (l.drop N).length = 8 := by rw [List.length_drop]; omega
  have c1 := countOf_any ⟨yb, yd, l.drop N⟩ dl w BB
  simp only [Wd.v, dl] at c1
  have cl := cn_low (l.drop N) 4
  obtain ⟨sf, BF⟩ := part_front hx N l.length rfl (by omega)
  have tl : (l.take N).length = N := by rw [List.length_take]; omega
  have c2 := turned_any ⟨a, c, l.take N⟩ (by show (l.take N).length ≤ _; omega) (cn (l.drop N) 4) (by show _ ≤ (l.take N).length; omega) w BF
  simp only [Wd.v, tl] at c2
  have txe : tt (cn (l.drop N) 4) (l.take N) = tx l := by unfold tx; rw [← hN]
  rw [txe] at c2
  have txl : (tx l).length = N := by rw [← txe, tt_len, tl]
  have C3 : Hid (∀ (W : World) (y : Wd), y.l = tx l → Bits W y → Calls Try.prog 22 #[y.v] W fun e w' => ∃ v, e = .returned v ∧ OwnB W w' v (pt (tx l))) := fun W y hy hb => by
    rw [← hy]
    exact put_any y (by rw [hy, txl]; omega) (by rw [hy, txl]; omega) W hb
  have C4 : Hid (∀ (W : World) (z : Wd), Ext w W → Bits W z → Calls Try.prog 25 #[z.v, .slice a l.length c] W fun e w' => e = .returned (.bool (z.l == l)) ∧ Qt W w') := fun W z E hz => by
    exact equal_any z ⟨a, c, l⟩ W hz (HX.out.ext E)
  have yz := rem2 l.length
  rw [h2] at yz
  have hN2 : ((l.length : Int) - 8) = (N : Int) := by omega
  have hz : ¬ (l.length : Int) > 20 := by omega
  have hz2 : ¬ (l.length : Int) < 8 := by omega
  have hNn : N ≤ 12 := by omega
  have hNl : N ≤ l.length := by omega
  clear hN BB BF dl tl txl txe hx h2 HX
  generalize cn (l.drop N) 4 = C at *
  have hz3 : ¬ (C : Int) > (N : Int) := by omega
  generalize tx l = X at *
  generalize l.length = n at *
  go_enter Try.func14, Try.ntmps14
  go_wp2_with fail
  refine c1.mono ?_
  rintro e w1 ⟨rfl, rfl⟩
  clear c1
  go_wp2_with fail
  refine c2.mono ?_
  rintro e w2 ⟨v, rfl, O⟩
  have O1 : Hid (OwnB w1 w2 v X) := O
  obtain ⟨y, rfl, hy, hb⟩ := O.bits
  have c3 := C3.out w2 y hy hb
  clear c2 O hb hy C3
  go_wp2_with fail
  refine c3.mono ?_
  rintro e w3 ⟨v, rfl, O⟩
  obtain ⟨z, rfl, hz, hb⟩ := O.bits
  have O2 : Hid (OwnB w1 w3 y.v X) := O1.out.ext O.1
  have c4 := C4.out w3 z O2.out.1 hb
  rw [hz] at c4
  clear c3 O hb hz O1 C4
  go_wp2_with fail
  refine c4.mono ?_
  rintro e w4 ⟨rfl, Q⟩
  have O3 : Hid (OwnB w1 w4 y.v X) := O2.out.ext Q.ext
  clear c4 Q O2
  rw [beq_eq_false_iff_ne.2 hp]
  clear hp
  go_wp2
  go_ret2
  exact ⟨rfl, O3.out.1⟩

set_option maxHeartbeats 1000000 in
theorem Get_is (x : Wd) (h8 : 8 ≤ x.l.length) (hl : x.l.length ≤ 20) (h2 : x.l.length % 2 = 0) (hC : cn (x.l.drop (x.l.length - 8)) 4 ≤ x.l.length - 8) (hp : pt (tx x.l) = x.l) (w : World) (hx : Bits w x) : Calls Try.prog 14 #[x.v] w fun e w' => ∃ v, e = .returned (.tuple #[v, .int .i64 0]) ∧ OwnB w w' v (tx x.l) := by
  have hm1 := hx.1
  have hm2 := hx.2.1
  obtain ⟨a, c, l⟩ := x
  have HX : Hid (Bits w ⟨a, c, l⟩) := hx
  simp only at *
  simp only [Wd.v]
  unfold maxLen at hm2
  obtain ⟨N, hN⟩ : ∃ N, N = l.length - 8 := ⟨_, rfl⟩
  rw [← hN] at hC
  obtain ⟨yb, yd, sb, BB⟩ := part_back hx N l.length rfl (by omega)
  rw [show l.length - N = 8 by omega] at sb
  have dl : (l.drop N).length = 8 := by rw [List.length_drop]; omega
  have c1 := countOf_any ⟨yb, yd, l.drop N⟩ dl w BB
  simp only [Wd.v, dl] at c1
  have cl := cn_low (l.drop N) 4
  obtain ⟨sf, BF⟩ := part_front hx N l.length rfl (by omega)
  have tl : (l.take N).length = N := by rw [List.length_take]; omega
  have c2 := turned_any ⟨a, c, l.take N⟩ (by show (l.take N).length ≤ _; omega) (cn (l.drop N) 4) (by show _ ≤ (l.take N).length; omega) w BF
  simp only [Wd.v, tl] at c2
  have txe : tt (cn (l.drop N) 4) (l.take N) = tx l := by unfold tx; rw [← hN]
  rw [txe] at c2
  have txl : (tx l).length = N := by rw [← txe, tt_len, tl]
  have C3 : Hid (∀ (W : World) (y : Wd), y.l = tx l → Bits W y → Calls Try.prog 22 #[y.v] W fun e w' => ∃ v, e = .returned v ∧ OwnB W w' v (pt (tx l))) := fun W y hy hb => by
    rw [← hy]
    exact put_any y (by rw [hy, txl]; omega) (by rw [hy, txl]; omega) W hb
  have C4 : Hid (∀ (W : World) (z : Wd), Ext w W → Bits W z → Calls Try.prog 25 #[z.v, .slice a l.length c] W fun e w' => e = .returned (.bool (z.l == l)) ∧ Qt W w') := fun W z E hz => by
    exact equal_any z ⟨a, c, l⟩ W hz (HX.out.ext E)
  have yz := rem2 l.length
  rw [h2] at yz
  have hN2 : ((l.length : Int) - 8) = (N : Int) := by omega
  have hz : ¬ (l.length : Int) > 20 := by omega
  have hz2 : ¬ (l.length : Int) < 8 := by omega
  have hNn : N ≤ 12 := by omega
  have hNl : N ≤ l.length := by omega
  clear hN BB BF dl tl txl txe hx h2 HX
  generalize cn (l.drop N) 4 = C at *
  have hz3 : ¬ (C : Int) > (N : Int) := by omega
  generalize tx l = X at *
  generalize l.length = n at *
  go_enter Try.func14, Try.ntmps14
  go_wp2_with fail
  refine c1.mono ?_
  rintro e w1 ⟨rfl, rfl⟩
  clear c1
  go_wp2_with fail
  refine c2.mono ?_
  rintro e w2 ⟨v, rfl, O⟩
  have O1 : Hid (OwnB w1 w2 v X) := O
  obtain ⟨y, rfl, hy, hb⟩ := O.bits
  have c3 := C3.out w2 y hy hb
  clear c2 O hb hy C3
  go_wp2_with fail
  refine c3.mono ?_
  rintro e w3 ⟨v, rfl, O⟩
  obtain ⟨z, rfl, hz, hb⟩ := O.bits
  have O2 : Hid (OwnB w1 w3 y.v X) := O1.out.ext O.1
  have c4 := C4.out w3 z O2.out.1 hb
  rw [hz] at c4
  clear c3 O hb hz O1 C4
  go_wp2_with fail
  refine c4.mono ?_
  rintro e w4 ⟨rfl, Q⟩
  have O3 : Hid (OwnB w1 w4 y.v X) := O2.out.ext Q.ext
  clear c4 Q O2
  rw [beq_iff_eq.2 hp]
  clear hp
  go_wp2
  go_ret2
  first | exact ⟨_, rfl, O3.out⟩ | exact O3.out

theorem Get_none (x : Wd) (hl : x.l.length ≤ 20) (hg : gt x.l = none) (w : World) (hx : Bits w x) : Calls Try.prog 14 #[x.v] w fun e w' => e = .returned (.tuple #[.slice none 0 0, .int .i64 3]) ∧ Ext w w' := by
  by_cases h8 : x.l.length < 8
  · refine (Get_short x h8 w).mono ?_
    rintro e w1 ⟨rfl, rfl⟩
    exact ⟨rfl, Ext.refl _⟩
  · by_cases h2 : x.l.length % 2 = 0
    · by_cases hC : cn (x.l.drop (x.l.length - 8)) 4 ≤ x.l.length - 8
      · refine Get_not x (by omega) hl h2 hC (fun hp => ?_) w hx
        unfold gt at hg
        rw [if_pos ⟨by omega, h2, hC, hp⟩] at hg
        cases hg
      · exact Get_over x (by omega) hl h2 hC w hx
    · refine (Get_odd x (by omega) hl h2 w).mono ?_
      rintro e w1 ⟨rfl, rfl⟩
      exact ⟨rfl, Ext.refl _⟩
theorem Get_some (x : Wd) (hl : x.l.length ≤ 20) (t : List Bool) (hg : gt x.l = some t) (w : World) (hx : Bits w x) : Calls Try.prog 14 #[x.v] w fun e w' => ∃ v, e = .returned (.tuple #[v, .int .i64 0]) ∧ OwnB w w' v t := by
  obtain ⟨h8, h2, hC, hp, rfl, _⟩ := gt_some hg
  exact Get_is x h8 hl h2 hC hp w hx
end Go.Proofs.Ytibedfdgkknoiaa
