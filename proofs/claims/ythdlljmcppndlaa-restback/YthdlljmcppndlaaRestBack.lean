/-
  For any polynomial and any bits what was put is got, and what is got is put: RestBack returns true for every number and every list of bits, and changes nothing.
-/
import Derived.Test.YthdlljmcppndlaaOpen
import Derived.Test.YthdlljmcppndlaaFac
import Derived.Test.YthdlljmcppndlaaRf
import Derived.Test.YthdlljmcppndlaaEq
import Derived.ProofKit
namespace Go.Proofs.Ythdlljmcppndlaa
open Go.ChangeShapes Go.WideShapes Go.ChangeAt Go.RowKit Go.Deep
set_option linter.unusedVariables false

theorem u32_of {x : Int} (h : (Lit.int .u32 x).wf = true) : 0 ≤ x ∧ x < 4294967296 := by
  have b : IntKind.u32.min = 0 ∧ IntKind.u32.max = 4294967295 := by decide
  simp only [Lit.wf, b, Bool.and_eq_true, decide_eq_true_eq] at h
  omega

theorem rce_G {g n : Nat} (h : G g) (hn : n ≤ 64) : rce g n = 0 := by
  obtain ⟨h0, h1, h2⟩ := h
  rw [Nat.testBit_zero, decide_eq_true_eq] at h0
  exact rce_ok (by omega) (by omega)

theorem restBack_bad (g : Nat) (hg : g < 4294967296) (x : Wd) (c : Int) (hc : rce g x.l.length = c) (h : c ≠ 0) (w : World) : Calls Try.prog 6 #[.int .u32 g, x.v] w fun e w' => e = .returned (.bool true) ∧ Ext w w' := by
  have c0 := Put_bad g hg x c hc h w
  have c1 := Get_bad g hg x c hc h w
  have c2 := refCheck_any g hg x.a x.l.length x.c w
  rw [hc] at c2
  have hb : (c != 0) = true := bne_iff_ne.2 h
  have hb2 : (c == 0) = false := beq_eq_false_iff_ne.2 h
  clear hc
  simp only [Wd.v] at *
  generalize x.l.length = n at *
  go_enter Try.func6, Try.ntmps6
  go_wp2_with fail
  refine c0.mono ?_
  rintro e w1 ⟨rfl, rfl⟩
  clear c0
  go_wp2_with fail
  refine c1.mono ?_
  rintro e w1 ⟨rfl, rfl⟩
  clear c1
  go_wp2_with fail
  refine c2.mono ?_
  rintro e w1 ⟨rfl, rfl⟩
  clear c2
  go_wp2
  go_ret
  exact ⟨rfl, Ext.refl _⟩

set_option maxHeartbeats 2000000 in
theorem restBack_good_form (g : Nat) (hG : G g) (x : Wd) (h : rce g x.l.length = 0) (hl : x.l.length ≤ 64) (hp : x.l.length + g.log2 ≤ 64) (hf : x.l.length < g.log2) (w : World) (hx : Bits w x) : Calls Try.prog 6 #[.int .u32 g, x.v] w fun e w' => e = .returned (.bool true) ∧ Ext w w' := by
  have hg1 : g ≤ 131071 := hG.2.2
  have hd := hG.deg
  have c0 := Put_good g x hG h hp w hx
  have c1 : Hid (∀ W : World, Ext w W → Calls Try.prog 16 #[.int .u32 g, x.v] W fun e w' => e = .returned (.tuple #[.slice none 0 0, .int .i64 3]) ∧ w' = W) := fun W E => Get_form g x hG h hf W
  have c2 : Hid (∀ W : World, Calls Try.prog 10 #[.int .u32 g, x.v] W fun e w' => e = .returned (.int .i64 0) ∧ w' = W) := fun W => by
    have := refCheck_any g (by omega) x.a x.l.length x.c W
    rw [h] at this
    exact this
  have c3 : Hid (∀ (y : Wd) (W : World), y.l = pt g x.l → Bits W y → Calls Try.prog 16 #[.int .u32 g, y.v] W fun e w' => ∃ d : Wd, e = .returned (.tuple #[d.v, .int .i64 0]) ∧ d.l = x.l ∧ Bits w' d ∧ Ext W w') := fun y W hy hb => by
    have hyl : y.l.length = x.l.length + g.log2 := by rw [hy, pt_len]
    have := Get_good g y hG (rce_G hG (by omega)) x.l.length hyl (by omega) (by rw [hy]; exact rs_pt hG _) W hb
    rw [hy, show (pt g x.l).take x.l.length = x.l by unfold pt; simp] at this
    exact this
  have c4 : Hid (∀ (y : Wd) (W : World), y.l = x.l → Bits W y → Ext w W → Calls Try.prog 14 #[y.v, x.v] W fun e w' => e = .returned (.bool true) ∧ Ext W w') := fun y W hy hb E => by
    refine (bools_any y x W hb (hx.ext E)).mono ?_
    rintro e w' ⟨rfl, q⟩
    exact ⟨ret_bool (by rw [hy]; simp), q.ext⟩
  obtain ⟨n, hn⟩ : ∃ n, x.l.length = n := ⟨_, rfl⟩
  have hv : x.v = .slice x.a n x.c := by rw [Wd.v, hn]
  rw [hv] at c0 c1 c2 c4 ⊢
  rw [hn] at hl hp hf
  clear hv hx h hn
  generalize pt g x.l = R at *
  generalize x.l = L at *
  generalize x.a = xa at *
  generalize x.c = xc at *
  generalize g.log2 = d at *
  go_enter Try.func6, Try.ntmps6
  go_wp2_with fail
  refine c0.mono ?_
  rintro e w1 ⟨y, rfl, hy, hb, E1⟩
  have Y1 : Hid (y.l = R ∧ Bits w1 y) := ⟨hy, hb⟩
  have E1' : Hid (Ext w w1) := E1
  obtain ⟨v1, hv1⟩ : ∃ v, y.v = v := ⟨_, rfl⟩
  have HV1 : Hid (y.v = v1) := hv1
  rw [hv1]
  clear c0 hy hb E1 hv1
  have k1 := c1.out w1 E1'.out
  clear c1
  go_wp2_with fail
  refine k1.mono ?_
  rintro e w2 ⟨rfl, rfl⟩
  clear k1
  have Y2 := Y1
  clear Y1
  have E2' := E1'
  clear E1'
  go_wp2_with fail
  refine (c2.out w2).mono ?_
  rintro e w3 ⟨rfl, rfl⟩
  clear c2
  have k3 := c3.out y w3 Y2.out.1 Y2.out.2
  rw [HV1.out] at k3
  clear c3 Y2 HV1
  go_wp2_with fail
  refine k3.mono ?_
  rintro e w4 ⟨u, rfl, hu, hb, E4⟩
  have U4 : Hid (u.l = L ∧ Bits w4 u) := ⟨hu, hb⟩
  have E4' : Hid (Ext w w4) := E2'.out.trans E4
  obtain ⟨v3, hv3⟩ : ∃ v, u.v = v := ⟨_, rfl⟩
  have HV3 : Hid (u.v = v3) := hv3
  rw [hv3]
  clear k3 hu hb E4 hv3 E2'
  have k4 := c4.out u w4 U4.out.1 U4.out.2 E4'.out
  rw [HV3.out] at k4
  clear c4
  clear U4 HV3
  go_wp2_with fail
  refine k4.mono ?_
  rintro e w5 ⟨rfl, E5⟩
  have E5' : Hid (Ext w w5) := E4'.out.trans E5
  clear k4 E5 E4'
  go_wp2
  go_ret
  exact ⟨rfl, E5'.out⟩

set_option maxHeartbeats 2000000 in
theorem restBack_good_sum (g : Nat) (hG : G g) (x : Wd) (h : rce g x.l.length = 0) (hl : x.l.length ≤ 64) (hp : x.l.length + g.log2 ≤ 64) (hf : g.log2 ≤ x.l.length) (h0 : rs g x.l ≠ 0) (w : World) (hx : Bits w x) : Calls Try.prog 6 #[.int .u32 g, x.v] w fun e w' => e = .returned (.bool true) ∧ Ext w w' := by
  have hg1 : g ≤ 131071 := hG.2.2
  have hd := hG.deg
  have c0 := Put_good g x hG h hp w hx
  have c1 : Hid (∀ W : World, Ext w W → Calls Try.prog 16 #[.int .u32 g, x.v] W fun e w' => e = .returned (.tuple #[.slice none 0 0, .int .i64 8]) ∧ w' = W) := fun W E => Get_sum g x hG h hf hl h0 W (hx.ext E)
  have c2 : Hid (∀ W : World, Calls Try.prog 10 #[.int .u32 g, x.v] W fun e w' => e = .returned (.int .i64 0) ∧ w' = W) := fun W => by
    have := refCheck_any g (by omega) x.a x.l.length x.c W
    rw [h] at this
    exact this
  have c3 : Hid (∀ (y : Wd) (W : World), y.l = pt g x.l → Bits W y → Calls Try.prog 16 #[.int .u32 g, y.v] W fun e w' => ∃ d : Wd, e = .returned (.tuple #[d.v, .int .i64 0]) ∧ d.l = x.l ∧ Bits w' d ∧ Ext W w') := fun y W hy hb => by
    have hyl : y.l.length = x.l.length + g.log2 := by rw [hy, pt_len]
    have := Get_good g y hG (rce_G hG (by omega)) x.l.length hyl (by omega) (by rw [hy]; exact rs_pt hG _) W hb
    rw [hy, show (pt g x.l).take x.l.length = x.l by unfold pt; simp] at this
    exact this
  have c4 : Hid (∀ (y : Wd) (W : World), y.l = x.l → Bits W y → Ext w W → Calls Try.prog 14 #[y.v, x.v] W fun e w' => e = .returned (.bool true) ∧ Ext W w') := fun y W hy hb E => by
    refine (bools_any y x W hb (hx.ext E)).mono ?_
    rintro e w' ⟨rfl, q⟩
    exact ⟨ret_bool (by rw [hy]; simp), q.ext⟩
  obtain ⟨n, hn⟩ : ∃ n, x.l.length = n := ⟨_, rfl⟩
  have hv : x.v = .slice x.a n x.c := by rw [Wd.v, hn]
  rw [hv] at c0 c1 c2 c4 ⊢
  rw [hn] at hl hp hf
  clear hv hx h hn h0
  generalize pt g x.l = R at *
  generalize x.l = L at *
  generalize x.a = xa at *
  generalize x.c = xc at *
  generalize g.log2 = d at *
  go_enter Try.func6, Try.ntmps6
  go_wp2_with fail
  refine c0.mono ?_
  rintro e w1 ⟨y, rfl, hy, hb, E1⟩
  have Y1 : Hid (y.l = R ∧ Bits w1 y) := ⟨hy, hb⟩
  have E1' : Hid (Ext w w1) := E1
  obtain ⟨v1, hv1⟩ : ∃ v, y.v = v := ⟨_, rfl⟩
  have HV1 : Hid (y.v = v1) := hv1
  rw [hv1]
  clear c0 hy hb E1 hv1
  have k1 := c1.out w1 E1'.out
  clear c1
  go_wp2_with fail
  refine k1.mono ?_
  rintro e w2 ⟨rfl, rfl⟩
  clear k1
  have Y2 := Y1
  clear Y1
  have E2' := E1'
  clear E1'
  go_wp2_with fail
  refine (c2.out w2).mono ?_
  rintro e w3 ⟨rfl, rfl⟩
  clear c2
  have k3 := c3.out y w3 Y2.out.1 Y2.out.2
  rw [HV1.out] at k3
  clear c3 Y2 HV1
  go_wp2_with fail
  refine k3.mono ?_
  rintro e w4 ⟨u, rfl, hu, hb, E4⟩
  have U4 : Hid (u.l = L ∧ Bits w4 u) := ⟨hu, hb⟩
  have E4' : Hid (Ext w w4) := E2'.out.trans E4
  obtain ⟨v3, hv3⟩ : ∃ v, u.v = v := ⟨_, rfl⟩
  have HV3 : Hid (u.v = v3) := hv3
  rw [hv3]
  clear k3 hu hb E4 hv3 E2'
  have k4 := c4.out u w4 U4.out.1 U4.out.2 E4'.out
  rw [HV3.out] at k4
  clear c4
  clear U4 HV3
  go_wp2_with fail
  refine k4.mono ?_
  rintro e w5 ⟨rfl, E5⟩
  have E5' : Hid (Ext w w5) := E4'.out.trans E5
  clear k4 E5 E4'
  go_wp2
  go_ret
  exact ⟨rfl, E5'.out⟩

set_option maxHeartbeats 2000000 in
theorem restBack_good_good (g : Nat) (hG : G g) (x : Wd) (h : rce g x.l.length = 0) (hl : x.l.length ≤ 64) (hp : x.l.length + g.log2 ≤ 64) (m : Nat) (hf : x.l.length = m + g.log2) (h0 : rs g x.l = 0) (w : World) (hx : Bits w x) : Calls Try.prog 6 #[.int .u32 g, x.v] w fun e w' => e = .returned (.bool true) ∧ Ext w w' := by
  have hg1 : g ≤ 131071 := hG.2.2
  have hd := hG.deg
  have c0 := Put_good g x hG h hp w hx
  have c1 : Hid (∀ W : World, Ext w W → Calls Try.prog 16 #[.int .u32 g, x.v] W fun e w' => ∃ d : Wd, e = .returned (.tuple #[d.v, .int .i64 0]) ∧ d.l = x.l.take m ∧ Bits w' d ∧ Ext W w') := fun W E => Get_good g x hG h m hf hl h0 W (hx.ext E)
  have c2 : Hid (∀ W : World, Calls Try.prog 10 #[.int .u32 g, x.v] W fun e w' => e = .returned (.int .i64 0) ∧ w' = W) := fun W => by
    have := refCheck_any g (by omega) x.a x.l.length x.c W
    rw [h] at this
    exact this
  have c3 : Hid (∀ (y : Wd) (W : World), y.l = pt g x.l → Bits W y → Calls Try.prog 16 #[.int .u32 g, y.v] W fun e w' => ∃ d : Wd, e = .returned (.tuple #[d.v, .int .i64 0]) ∧ d.l = x.l ∧ Bits w' d ∧ Ext W w') := fun y W hy hb => by
    have hyl : y.l.length = x.l.length + g.log2 := by rw [hy, pt_len]
    have := Get_good g y hG (rce_G hG (by omega)) x.l.length hyl (by omega) (by rw [hy]; exact rs_pt hG _) W hb
    rw [hy, show (pt g x.l).take x.l.length = x.l by unfold pt; simp] at this
    exact this
  have c4 : Hid (∀ (y : Wd) (W : World), y.l = x.l → Bits W y → Ext w W → Calls Try.prog 14 #[y.v, x.v] W fun e w' => e = .returned (.bool true) ∧ Ext W w') := fun y W hy hb E => by
    refine (bools_any y x W hb (hx.ext E)).mono ?_
    rintro e w' ⟨rfl, q⟩
    exact ⟨ret_bool (by rw [hy]; simp), q.ext⟩
  have c5 : Hid (∀ (y : Wd) (W : World), y.l = x.l.take m → Bits W y → Calls Try.prog 12 #[.int .u32 g, y.v] W fun e w' => ∃ d : Wd, e = .returned (.tuple #[d.v, .int .i64 0]) ∧ d.l = x.l ∧ Bits w' d ∧ Ext W w') := fun y W hy hb => by
    have hyl : y.l.length = m := by rw [hy, List.length_take]; omega
    have := Put_good g y hG (rce_G hG (by omega)) (by omega) W hb
    rw [hy, pt_back hG x.l m hf h0] at this
    exact this
  obtain ⟨n, hn⟩ : ∃ n, x.l.length = n := ⟨_, rfl⟩
  have hv : x.v = .slice x.a n x.c := by rw [Wd.v, hn]
  rw [hv] at c0 c1 c2 c4 ⊢
  rw [hn] at hl hp hf
  clear hv hx h hn h0
  generalize pt g x.l = R at *
  generalize x.l.take m = K at *
  clear hf
  generalize x.l = L at *
  generalize x.a = xa at *
  generalize x.c = xc at *
  generalize g.log2 = d at *
  go_enter Try.func6, Try.ntmps6
  go_wp2_with fail
  refine c0.mono ?_
  rintro e w1 ⟨y, rfl, hy, hb, E1⟩
  have Y1 : Hid (y.l = R ∧ Bits w1 y) := ⟨hy, hb⟩
  have E1' : Hid (Ext w w1) := E1
  obtain ⟨v1, hv1⟩ : ∃ v, y.v = v := ⟨_, rfl⟩
  have HV1 : Hid (y.v = v1) := hv1
  rw [hv1]
  clear c0 hy hb E1 hv1
  have k1 := c1.out w1 E1'.out
  clear c1
  go_wp2_with fail
  refine k1.mono ?_
  rintro e w2 ⟨z, rfl, hz1, hb, E2⟩
  have Z2 : Hid (z.l = K ∧ Bits w2 z) := ⟨hz1, hb⟩
  have E2' : Hid (Ext w w2) := E1'.out.trans E2
  have Y2 : Hid (y.l = R ∧ Bits w2 y) := ⟨Y1.out.1, Y1.out.2.ext E2⟩
  obtain ⟨v2, hv2⟩ : ∃ v, z.v = v := ⟨_, rfl⟩
  have HV2 : Hid (z.v = v2) := hv2
  rw [hv2]
  clear k1 hz1 hb E2 hv2 E1'
  clear Y1
  go_wp2_with fail
  refine (c2.out w2).mono ?_
  rintro e w3 ⟨rfl, rfl⟩
  clear c2
  have k3 := c3.out y w3 Y2.out.1 Y2.out.2
  rw [HV1.out] at k3
  clear c3 Y2 HV1
  go_wp2_with fail
  refine k3.mono ?_
  rintro e w4 ⟨u, rfl, hu, hb, E4⟩
  have U4 : Hid (u.l = L ∧ Bits w4 u) := ⟨hu, hb⟩
  have E4' : Hid (Ext w w4) := E2'.out.trans E4
  have Z4 : Hid (z.l = K ∧ Bits w4 z) := ⟨Z2.out.1, Z2.out.2.ext E4⟩
  clear Z2
  obtain ⟨v3, hv3⟩ : ∃ v, u.v = v := ⟨_, rfl⟩
  have HV3 : Hid (u.v = v3) := hv3
  rw [hv3]
  clear k3 hu hb E4 hv3 E2'
  have k4 := c4.out u w4 U4.out.1 U4.out.2 E4'.out
  rw [HV3.out] at k4
  clear U4 HV3
  go_wp2_with fail
  refine k4.mono ?_
  rintro e w5 ⟨rfl, E5⟩
  have E5' : Hid (Ext w w5) := E4'.out.trans E5
  have Z5 : Hid (z.l = K ∧ Bits w5 z) := ⟨Z4.out.1, Z4.out.2.ext E5⟩
  clear Z4
  clear k4 E5 E4'
  have k5 := c5.out z w5 Z5.out.1 Z5.out.2
  rw [HV2.out] at k5
  clear c5 Z5 HV2
  go_wp2_with fail
  refine k5.mono ?_
  rintro e w6 ⟨t, rfl, ht, hb, E6⟩
  have T6 : Hid (t.l = L ∧ Bits w6 t) := ⟨ht, hb⟩
  have E6' : Hid (Ext w w6) := E5'.out.trans E6
  obtain ⟨v4, hv4⟩ : ∃ v, t.v = v := ⟨_, rfl⟩
  have HV4 : Hid (t.v = v4) := hv4
  rw [hv4]
  clear k5 ht hb E6 hv4 E5'
  have k6 := c4.out t w6 T6.out.1 T6.out.2 E6'.out
  rw [HV4.out] at k6
  clear c4 T6 HV4
  go_wp2_with fail
  refine k6.mono ?_
  rintro e w7 ⟨rfl, E7⟩
  have E7' : Hid (Ext w w7) := E6'.out.trans E7
  clear k6 E7 E6'
  go_wp2
  go_ret
  exact ⟨rfl, E7'.out⟩

set_option maxHeartbeats 2000000 in
theorem restBack_large_sum (g : Nat) (hG : G g) (x : Wd) (h : rce g x.l.length = 0) (hl : x.l.length ≤ 64) (hp : 64 < x.l.length + g.log2) (hf : g.log2 ≤ x.l.length) (h0 : rs g x.l ≠ 0) (w : World) (hx : Bits w x) : Calls Try.prog 6 #[.int .u32 g, x.v] w fun e w' => e = .returned (.bool true) ∧ Ext w w' := by
  have hg1 : g ≤ 131071 := hG.2.2
  have hd := hG.deg
  have c0 := Put_large g x hG h hp hl w
  have c1 : Hid (∀ W : World, Ext w W → Calls Try.prog 16 #[.int .u32 g, x.v] W fun e w' => e = .returned (.tuple #[.slice none 0 0, .int .i64 8]) ∧ w' = W) := fun W E => Get_sum g x hG h hf hl h0 W (hx.ext E)
  have c2 : Hid (∀ W : World, Calls Try.prog 10 #[.int .u32 g, x.v] W fun e w' => e = .returned (.int .i64 0) ∧ w' = W) := fun W => by
    have := refCheck_any g (by omega) x.a x.l.length x.c W
    rw [h] at this
    exact this
  have c3 : Hid (∀ W : World, Calls Try.prog 13 #[.int .u32 g] W fun e w' => e = .returned (.int .i64 (g.log2 : Nat)) ∧ w' = W) := fun W => refDegree_any g (by omega) W
  have c4 : Hid (∀ (y : Wd) (W : World), y.l = x.l → Bits W y → Ext w W → Calls Try.prog 14 #[y.v, x.v] W fun e w' => e = .returned (.bool true) ∧ Ext W w') := fun y W hy hb E => by
    refine (bools_any y x W hb (hx.ext E)).mono ?_
    rintro e w' ⟨rfl, q⟩
    exact ⟨ret_bool (by rw [hy]; simp), q.ext⟩
  obtain ⟨n, hn⟩ : ∃ n, x.l.length = n := ⟨_, rfl⟩
  have hv : x.v = .slice x.a n x.c := by rw [Wd.v, hn]
  rw [hv] at c0 c1 c2 c4 ⊢
  rw [hn] at hl hp hf
  clear hv hx h hn h0
  have hz : ¬ ((n : Int) + (g.log2 : Nat) ≤ 64) := by omega
  generalize x.l = L at *
  generalize x.a = xa at *
  generalize x.c = xc at *
  generalize g.log2 = d at *
  go_enter Try.func6, Try.ntmps6
  go_wp2_with fail
  refine c0.mono ?_
  rintro e w1 ⟨rfl, rfl⟩
  have E1' : Hid (Ext w1 w1) := Ext.refl w1
  clear c0
  have k1 := c1.out w1 E1'.out
  clear c1
  go_wp2_with fail
  refine k1.mono ?_
  rintro e w2 ⟨rfl, rfl⟩
  clear k1
  have E2' := E1'
  clear E1'
  go_wp2_with fail
  refine (c2.out w2).mono ?_
  rintro e w3 ⟨rfl, rfl⟩
  clear c2
  go_wp2_with fail
  refine (c3.out w3).mono ?_
  rintro e w5 ⟨rfl, rfl⟩
  clear c3
  have E5' := E2'
  go_wp2
  go_ret
  exact ⟨rfl, E5'.out⟩

set_option maxHeartbeats 2000000 in
theorem restBack_large_good (g : Nat) (hG : G g) (x : Wd) (h : rce g x.l.length = 0) (hl : x.l.length ≤ 64) (hp : 64 < x.l.length + g.log2) (m : Nat) (hf : x.l.length = m + g.log2) (h0 : rs g x.l = 0) (w : World) (hx : Bits w x) : Calls Try.prog 6 #[.int .u32 g, x.v] w fun e w' => e = .returned (.bool true) ∧ Ext w w' := by
  have hg1 : g ≤ 131071 := hG.2.2
  have hd := hG.deg
  have c0 := Put_large g x hG h hp hl w
  have c1 : Hid (∀ W : World, Ext w W → Calls Try.prog 16 #[.int .u32 g, x.v] W fun e w' => ∃ d : Wd, e = .returned (.tuple #[d.v, .int .i64 0]) ∧ d.l = x.l.take m ∧ Bits w' d ∧ Ext W w') := fun W E => Get_good g x hG h m hf hl h0 W (hx.ext E)
  have c2 : Hid (∀ W : World, Calls Try.prog 10 #[.int .u32 g, x.v] W fun e w' => e = .returned (.int .i64 0) ∧ w' = W) := fun W => by
    have := refCheck_any g (by omega) x.a x.l.length x.c W
    rw [h] at this
    exact this
  have c3 : Hid (∀ W : World, Calls Try.prog 13 #[.int .u32 g] W fun e w' => e = .returned (.int .i64 (g.log2 : Nat)) ∧ w' = W) := fun W => refDegree_any g (by omega) W
  have c4 : Hid (∀ (y : Wd) (W : World), y.l = x.l → Bits W y → Ext w W → Calls Try.prog 14 #[y.v, x.v] W fun e w' => e = .returned (.bool true) ∧ Ext W w') := fun y W hy hb E => by
    refine (bools_any y x W hb (hx.ext E)).mono ?_
    rintro e w' ⟨rfl, q⟩
    exact ⟨ret_bool (by rw [hy]; simp), q.ext⟩
  have c5 : Hid (∀ (y : Wd) (W : World), y.l = x.l.take m → Bits W y → Calls Try.prog 12 #[.int .u32 g, y.v] W fun e w' => ∃ d : Wd, e = .returned (.tuple #[d.v, .int .i64 0]) ∧ d.l = x.l ∧ Bits w' d ∧ Ext W w') := fun y W hy hb => by
    have hyl : y.l.length = m := by rw [hy, List.length_take]; omega
    have := Put_good g y hG (rce_G hG (by omega)) (by omega) W hb
    rw [hy, pt_back hG x.l m hf h0] at this
    exact this
  obtain ⟨n, hn⟩ : ∃ n, x.l.length = n := ⟨_, rfl⟩
  have hv : x.v = .slice x.a n x.c := by rw [Wd.v, hn]
  rw [hv] at c0 c1 c2 c4 ⊢
  rw [hn] at hl hp hf
  clear hv hx h hn h0
  have hz : ¬ ((n : Int) + (g.log2 : Nat) ≤ 64) := by omega
  generalize x.l.take m = K at *
  clear hf
  generalize x.l = L at *
  generalize x.a = xa at *
  generalize x.c = xc at *
  generalize g.log2 = d at *
  go_enter Try.func6, Try.ntmps6
  go_wp2_with fail
  refine c0.mono ?_
  rintro e w1 ⟨rfl, rfl⟩
  have E1' : Hid (Ext w1 w1) := Ext.refl w1
  clear c0
  have k1 := c1.out w1 E1'.out
  clear c1
  go_wp2_with fail
  refine k1.mono ?_
  rintro e w2 ⟨z, rfl, hz1, hb, E2⟩
  have Z2 : Hid (z.l = K ∧ Bits w2 z) := ⟨hz1, hb⟩
  have E2' : Hid (Ext w1 w2) := E1'.out.trans E2
  obtain ⟨v2, hv2⟩ : ∃ v, z.v = v := ⟨_, rfl⟩
  have HV2 : Hid (z.v = v2) := hv2
  rw [hv2]
  clear k1 hz1 hb E2 hv2 E1'
  go_wp2_with fail
  refine (c2.out w2).mono ?_
  rintro e w3 ⟨rfl, rfl⟩
  clear c2
  go_wp2_with fail
  refine (c3.out w3).mono ?_
  rintro e w5 ⟨rfl, rfl⟩
  clear c3
  have E5' := E2'
  have Z5 := Z2
  have k5 := c5.out z w5 Z5.out.1 Z5.out.2
  rw [HV2.out] at k5
  clear c5 Z5 HV2
  go_wp2_with fail
  refine k5.mono ?_
  rintro e w6 ⟨t, rfl, ht, hb, E6⟩
  have T6 : Hid (t.l = L ∧ Bits w6 t) := ⟨ht, hb⟩
  have E6' : Hid (Ext w1 w6) := E5'.out.trans E6
  obtain ⟨v4, hv4⟩ : ∃ v, t.v = v := ⟨_, rfl⟩
  have HV4 : Hid (t.v = v4) := hv4
  rw [hv4]
  clear k5 ht hb E6 hv4 E5'
  have k6 := c4.out t w6 T6.out.1 T6.out.2 E6'.out
  rw [HV4.out] at k6
  clear c4 T6 HV4
  go_wp2_with fail
  refine k6.mono ?_
  rintro e w7 ⟨rfl, E7⟩
  have E7' : Hid (Ext w1 w7) := E6'.out.trans E7
  clear k6 E7 E6'
  go_wp2
  go_ret
  exact ⟨rfl, E7'.out⟩

theorem restBack_walk (q : Int) (hq : (Lit.int .u32 q).wf = true) (x : Wd) (w : World) (hx : Bits w x) : Calls Try.prog 6 #[.int .u32 q, x.v] w fun e w' => e = .returned (.bool true) ∧ Ext w w' := by
  have hq' := u32_of hq
  obtain ⟨g, rfl⟩ : ∃ g : Nat, q = g := ⟨q.toNat, by omega⟩
  have hg : g < 4294967296 := by omega
  rcases rce_cases g x.l.length with h | h | ⟨h, hG, hl⟩
  · exact restBack_bad g hg x 4 h (by decide) w
  · exact restBack_bad g hg x 1 h (by decide) w
  · have hd := hG.deg
    by_cases hf : x.l.length < g.log2
    · exact restBack_good_form g hG x h hl (by omega) hf w hx
    · by_cases hp : x.l.length + g.log2 ≤ 64
      · by_cases h0 : rs g x.l = 0
        · exact restBack_good_good g hG x h hl hp (x.l.length - g.log2) (by omega) h0 w hx
        · exact restBack_good_sum g hG x h hl hp (by omega) h0 w hx
      · by_cases h0 : rs g x.l = 0
        · exact restBack_large_good g hG x h hl (by omega) (x.l.length - g.log2) (by omega) h0 w hx
        · exact restBack_large_sum g hG x h hl (by omega) (by omega) h0 w hx

set_option maxRecDepth 100000 in
theorem restBack_lifted (os : Os) (started : os.Started) (H : Type) (enc : TypeId × Value → H) :
    ReturnsInHanded {} Try.checked os 6 .any (Rows.restBackSpec.pre6 enc Try.prog Try.f6 Rows.restBackRow.domain false) (Rows.restBackSpec.post enc Try.prog Try.f6 false true false false) := by
  refine returnsInHanded_of_change (C := Try.checked) own started (by kernel_rfl) Try.func6
    (ChangeSpec.witness6 (enc := enc) (C := Try.checked) false ⟨#[], #[.int .u32 0, .slice none 0 0], []⟩ 8 (by kernel_rfl) (by kernel_rfl) (by kernel_rfl) (by kernel_rfl)) ?_
  intro W base args ds gs before hval0 hW _ _
  have hval : ∀ (j : Nat) t v, Try.f6.params[j]? = some t → args[j]? = some v → Value.okWide Try.prog W .any base t v := hval0
  have hW' := hW
  obtain ⟨p, q, hA0, hV, rfl, hfz, hnd⟩ := hW
  have hA : DataW.TrodAll enc Try.prog W 0 (fun _ => true) true Try.f6.params.toList args.toList ds p := hA0
  rw [Try.params6] at hA hval
  obtain ⟨v0, vs0, d0, ds0, p0, q0, hargs, rfl, rfl, h0, r0⟩ := trodAll_cons hA
  obtain ⟨v1, vs1, d1, ds1, p1, q1, rfl, rfl, rfl, h1, r1⟩ := trodAll_cons r0
  obtain ⟨rfl, rfl, rfl⟩ := trodAll_nil r1
  obtain rfl : args = #[v0, v1] := by cases args; simp_all
  obtain ⟨rfl, rfl⟩ := trodVars_none hV
  have lt0 : ∀ x ∈ p0, x.block < W.heap.size := by obtain ⟨m, hm⟩ := h0; exact DataW.trod_lt m _ _ _ hm
  obtain ⟨x0, rfl, -, -, wf0⟩ := open_int Try.underlying22 (hval 0 22 v0 rfl rfl) h0
  have lt1 : ∀ x ∈ p1, x.block < W.heap.size := by obtain ⟨m, hm⟩ := h1; exact DataW.trod_lt m _ _ _ hm
  obtain ⟨x1, rfl, w1⟩ := open_word (hval 1 23 v1 rfl rfl) h1
  clear hA0 hval0
  refine (restBack_walk x0 wf0 x1 W w1).mono fun e W' ⟨he, bel⟩ => ?_
  subst he
  exact ⟨_, rfl, _, _, _, [], _, [], hW', trodAll_mk1 (shut_bool Try.underlying4 _), (trodAll_cons_mk (Below.trod laidOut (by kernel_rfl) (of_decide_eq_true (by kernel_rfl)) h0 bel lt0) (trodAll_cons_mk (Below.trod laidOut (by kernel_rfl) (of_decide_eq_true (by kernel_rfl)) h1 bel lt1) trodAll_mk0)), rfl, bel.frame _, fun h => by cases h⟩

theorem restBack_holds : Rows.RestBackSaid :=
  OpenClaim.holds_of_wide 6 Try.f6 rfl rfl rfl rfl rfl rfl rfl ⟨rfl, rfl, rfl, rfl, rfl⟩ rfl rfl rfl rfl rfl (by kernel_rfl) Try.func6 (by kernel_rfl)
    (of_decide_eq_true (by kernel_rfl)) (by unfold Func.isWrapper; rw [if_neg (of_decide_eq_false (by kernel_rfl))]; exact ⟨rfl, rfl⟩)
    (fun os started H enc _ => restBack_lifted os started H enc)

#print axioms restBack_holds

end Go.Proofs.Ythdlljmcppndlaa
