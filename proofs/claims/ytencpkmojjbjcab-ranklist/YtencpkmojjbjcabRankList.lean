/-
  For any list and any number: a list is that which is so many-th, and each that is so is one: RankList returns true for every list and every number, and changes nothing.
-/
import Derived.Test.YtencpkmojjbjcabOpen
import Derived.Test.YtencpkmojjbjcabNum
import Derived.Test.YtencpkmojjbjcabOnc
import Derived.Test.YtencpkmojjbjcabLs
namespace Go.Proofs.Ytencpkmojjbjcab
open Go.ChangeShapes Go.WideShapes Go.ChangeAt Go.RowKit Go.Deep
set_option linter.unusedVariables false

theorem perm_frst {n : Nat} {m : List Int} (h : m.Perm (frst n)) : m.length = n ∧ Each m := by
  have hl : m.length = n := by rw [h.length_eq, frst_length]
  refine ⟨hl, ?_⟩
  unfold Each
  rw [hl]
  exact h

theorem order_nums (y : Nm) (n : Nat) (w : World) (hy : Nums w y) (hn : y.z.length = n) (h8 : n ≤ 8) (hE : Each y.z) : Calls Try.prog 7 #[y.v] w fun e w' => e = .returned (.tuple #[.int .i64 (od y.z : Nat), .int .i64 0]) ∧ w' = w := by
  obtain ⟨h1, h2, h0, b, o, h3, h4⟩ := hy
  have hv : y.v = .slice y.a n y.c := by rw [← hn]
  rw [hn] at h1 h3 h4
  rw [hv]
  exact order_good y.a b o n y.c y.z w hn h8 h1 h2 h3 (fun i hi => h4 i (by omega)) hE

theorem order_not (y : Nm) (n : Nat) (w : World) (hy : Nums w y) (hn : y.z.length = n) (h8 : n ≤ 8) (hE : ¬ Each y.z) : Calls Try.prog 7 #[y.v] w fun e w' => e = .returned (.tuple #[.int .i64 0, .int .i64 3]) ∧ w' = w := by
  obtain ⟨h1, h2, h0, b, o, h3, h4⟩ := hy
  have hv : y.v = .slice y.a n y.c := by rw [← hn]
  rw [hn] at h1 h3 h4
  rw [hv]
  exact order_none y.a b o n y.c y.z w hn h8 h3 (fun i hi => h4 i (by omega)) hE

theorem once_nums (y : Nm) (n : Nat) (w : World) (hy : Nums w y) (hn : y.z.length = n) (h8 : n ≤ 8) : Calls Try.prog 9 #[y.v] w fun e w' => (∃ r : Bool, e = .returned (.bool r) ∧ (r = true ↔ Each y.z)) ∧ w' = w := by
  obtain ⟨h1, h2, h0, b, o, h3, h4⟩ := hy
  have hv : y.v = .slice y.a n y.c := by rw [← hn]
  rw [hn] at h1 h3 h4
  rw [hv]
  exact once_any y.a b o n y.c y.z w hn h8 h1 h2 h3 (fun i hi => h4 i (by omega))

set_option maxHeartbeats 1000000 in
theorem rankList_eg (x : Nm) (n : Nat) (i : Nat) (w : World) (hx : Nums w x) (hn : x.z.length = n) (h8 : n ≤ 8) (hE : Each x.z) (hi : i < fc n) : Calls Try.prog 4 #[.slice x.a n x.c, .int .i64 i] w fun e w' => e = .returned (.bool true) ∧ Ext w w' := by
  have hv : x.v = .slice x.a n x.c := by rw [← hn]
  have C1 : Hid (∀ W, Ext w W → Calls Try.prog 7 #[.slice x.a n x.c] W fun e w' => e = .returned (.tuple #[.int .i64 (od x.z : Nat), .int .i64 0]) ∧ w' = W) := fun W e => by
    rw [← hv]
    exact order_nums x n W (hx.ext e) hn h8 hE
  have C3 : Hid (∀ W, Ext w W → Calls Try.prog 9 #[.slice x.a n x.c] W fun e w' => e = .returned (.bool true) ∧ w' = W) := fun W e => by
    rw [← hv]
    refine (once_nums x n W (hx.ext e) hn h8).mono ?_
    rintro e w' ⟨⟨r, rfl, hr⟩, rfl⟩
    refine ⟨ret_bool ?_, rfl⟩
    exact hr.2 hE
  have c2 := list_good n i h8 hi w
  obtain ⟨t1, t2⟩ := li_ok n (frst n) i (frst_length n) (frst_up n) hi
  have few : i ≤ 40320 := by have := fc_few' h8; omega
  obtain ⟨T, hT⟩ : ∃ T, li n (frst n) i = T := ⟨_, rfl⟩
  rw [hT] at c2 t1 t2
  have C6 : Hid (∀ (y : Nm) W, Nums W y → y.z = T → Calls Try.prog 7 #[y.v] W fun e w' => e = .returned (.tuple #[.int .i64 (i : Nat), .int .i64 0]) ∧ w' = W) := fun y W hy e => by
    have := order_nums y n W hy (by rw [e]; exact (perm_frst t1).1) h8 (by rw [e]; exact (perm_frst t1).2)
    rw [e, t2] at this
    exact this
  have LT : Hid (T.length = n) := (perm_frst t1).1
  clear hT t1 t2
  have hod : od x.z < fc n := by rw [← hn]; exact od_lt x.z
  have C4 : Hid (∀ W, Calls Try.prog 8 #[.int .i64 n, .int .i64 (od x.z : Nat)] W fun e w' => ∃ v, e = .returned (.tuple #[v, .int .i64 0]) ∧ OwnN W w' v x.z) := fun W => by
    have := list_good n (od x.z) h8 hod W
    obtain ⟨s1, s2⟩ := li_ok n (frst n) (od x.z) (frst_length n) (frst_up n) hod
    have hp : x.z.Perm (frst n) := by
      have : x.z.Perm (frst x.z.length) := hE
      rw [hn] at this
      exact this
    rw [od_inj _ x.z (s1.trans hp.symm) s2] at this
    exact this
  have C5 : Hid (∀ (y : Nm) W, Nums W y → Ext w W → y.z = x.z → Calls Try.prog 10 #[y.v, .slice x.a n x.c] W fun e w' => e = .returned (.bool true) ∧ Qt W w') := fun y W hy e hz => by
    rw [← hv]
    have := ints_any y x W hy (hx.ext e)
    rw [show (y.z == x.z) = true by rw [hz]; exact beq_self_eq_true _] at this
    exact this
  have hcm := hx.2.1
  have hcl := hx.1
  rw [hn] at hcl
  unfold maxLen at hcm
  generalize x.a = xa at *
  generalize x.c = xc at *
  generalize x.z = z at *
  generalize od z = R at *
  clear hx hv hn hE
  go_enter Try.func4, Try.ntmps4
  go_wp2_with fail
  refine (C1.out w (Ext.refl w)).mono ?_
  rintro e w0 ⟨rfl, rfl⟩
  clear C1
  go_wp2_with fail
  refine c2.mono ?_
  rintro e w1 ⟨v1, rfl, hO1⟩
  obtain ⟨y1, hv1, hy1, hN1⟩ := hO1.nums
  have E1 : Hid (Ext w0 w1) := hO1.1
  have hl1 : y1.z.length = n := by rw [hy1, LT.out]
  have hv2 : y1.v = .slice y1.a n y1.c := by rw [← hl1]
  have c6 : Hid (∀ W, Ext w1 W → Calls Try.prog 7 #[.slice y1.a n y1.c] W fun e w' => e = .returned (.tuple #[.int .i64 (i : Nat), .int .i64 0]) ∧ w' = W) := fun W e => by
    rw [← hv2]
    exact C6.out y1 W (hN1.ext e) hy1
  rw [hv2] at hv1
  clear c2 hO1 hy1 hN1 C6 LT hl1 hv2
  generalize y1.a = ya at *
  generalize y1.c = yc at *
  subst hv1
  go_wp2_with fail
  refine (C3.out w1 E1.out).mono ?_
  rintro e w2 ⟨rfl, rfl⟩
  clear C3
  go_wp2_with fail
  refine (C4.out w2).mono ?_
  rintro e w3 ⟨v3, rfl, hO3⟩
  obtain ⟨y3, rfl, hy3, hN3⟩ := hO3.nums
  have E3 : Hid (Ext w2 w3) := hO3.1
  have c5 := C5.out y3 w3 hN3 (E1.out.trans E3.out) hy3
  clear C4 C5 hO3 hy3 hN3
  generalize y3.v = yv3 at *
  go_wp2_with fail
  refine c5.mono ?_
  rintro e w4 ⟨rfl, hq⟩
  have E4 : Hid (Ext w2 w4) := E3.out.trans hq.ext
  clear c5 hq E3
  go_wp2_with fail
  refine (c6.out w4 E4.out).mono ?_
  rintro e w6 ⟨rfl, rfl⟩
  clear c6
  go_wp2
  go_ret
  exact ⟨ret_bool (by simp), E1.out.trans E4.out⟩

set_option maxHeartbeats 1000000 in
theorem rankList_eb (x : Nm) (n : Nat) (i : Int) (w : World) (hx : Nums w x) (hn : x.z.length = n) (h8 : n ≤ 8) (hE : Each x.z) (hi : ¬ (0 ≤ i ∧ i < (fc n : Nat))) : Calls Try.prog 4 #[.slice x.a n x.c, .int .i64 i] w fun e w' => e = .returned (.bool true) ∧ Ext w w' := by
  have hv : x.v = .slice x.a n x.c := by rw [← hn]
  have C1 : Hid (∀ W, Ext w W → Calls Try.prog 7 #[.slice x.a n x.c] W fun e w' => e = .returned (.tuple #[.int .i64 (od x.z : Nat), .int .i64 0]) ∧ w' = W) := fun W e => by
    rw [← hv]
    exact order_nums x n W (hx.ext e) hn h8 hE
  have C3 : Hid (∀ W, Ext w W → Calls Try.prog 9 #[.slice x.a n x.c] W fun e w' => e = .returned (.bool true) ∧ w' = W) := fun W e => by
    rw [← hv]
    refine (once_nums x n W (hx.ext e) hn h8).mono ?_
    rintro e w' ⟨⟨r, rfl, hr⟩, rfl⟩
    refine ⟨ret_bool ?_, rfl⟩
    exact hr.2 hE
  have c2 := list_none n i h8 hi w
  have hpos := fc_pos n
  have hod : od x.z < fc n := by rw [← hn]; exact od_lt x.z
  have C4 : Hid (∀ W, Calls Try.prog 8 #[.int .i64 n, .int .i64 (od x.z : Nat)] W fun e w' => ∃ v, e = .returned (.tuple #[v, .int .i64 0]) ∧ OwnN W w' v x.z) := fun W => by
    have := list_good n (od x.z) h8 hod W
    obtain ⟨s1, s2⟩ := li_ok n (frst n) (od x.z) (frst_length n) (frst_up n) hod
    have hp : x.z.Perm (frst n) := by
      have : x.z.Perm (frst x.z.length) := hE
      rw [hn] at this
      exact this
    rw [od_inj _ x.z (s1.trans hp.symm) s2] at this
    exact this
  have C5 : Hid (∀ (y : Nm) W, Nums W y → Ext w W → y.z = x.z → Calls Try.prog 10 #[y.v, .slice x.a n x.c] W fun e w' => e = .returned (.bool true) ∧ Qt W w') := fun y W hy e hz => by
    rw [← hv]
    have := ints_any y x W hy (hx.ext e)
    rw [show (y.z == x.z) = true by rw [hz]; exact beq_self_eq_true _] at this
    exact this
  have hcm := hx.2.1
  have hcl := hx.1
  rw [hn] at hcl
  unfold maxLen at hcm
  generalize x.a = xa at *
  generalize x.c = xc at *
  generalize x.z = z at *
  generalize od z = R at *
  generalize fc n = F at *
  clear hx hv hn hE
  go_enter Try.func4, Try.ntmps4
  go_wp2_with fail
  refine (C1.out w (Ext.refl w)).mono ?_
  rintro e w0 ⟨rfl, rfl⟩
  clear C1
  go_wp2_with fail
  refine c2.mono ?_
  rintro e w1 ⟨rfl, rfl⟩
  have E1 : Hid (Ext w1 w1) := Ext.refl _
  clear c2
  go_wp2_with fail
  refine (C3.out w1 E1.out).mono ?_
  rintro e w2 ⟨rfl, rfl⟩
  clear C3
  go_wp2_with fail
  refine (C4.out w2).mono ?_
  rintro e w3 ⟨v3, rfl, hO3⟩
  obtain ⟨y3, rfl, hy3, hN3⟩ := hO3.nums
  have E3 : Hid (Ext w2 w3) := hO3.1
  have c5 := C5.out y3 w3 hN3 (E1.out.trans E3.out) hy3
  clear C4 C5 hO3 hy3 hN3
  generalize y3.v = yv3 at *
  go_wp2_with fail
  refine c5.mono ?_
  rintro e w4 ⟨rfl, hq⟩
  have E4 : Hid (Ext w2 w4) := E3.out.trans hq.ext
  clear c5 hq E3
  rcases Int.lt_or_le i 0 with h0 | h0
  · go_wp2
    go_ret
    exact ⟨ret_bool (by simp), E4.out⟩
  · have h1 : 0 < i := by omega
    go_wp2
    go_ret
    exact ⟨ret_bool (by simp), E4.out⟩

set_option maxHeartbeats 1000000 in
theorem rankList_ng (x : Nm) (n : Nat) (i : Nat) (w : World) (hx : Nums w x) (hn : x.z.length = n) (h8 : n ≤ 8) (hE : ¬ Each x.z) (hi : i < fc n) : Calls Try.prog 4 #[.slice x.a n x.c, .int .i64 i] w fun e w' => e = .returned (.bool true) ∧ Ext w w' := by
  have hv : x.v = .slice x.a n x.c := by rw [← hn]
  have C1 : Hid (∀ W, Ext w W → Calls Try.prog 7 #[.slice x.a n x.c] W fun e w' => e = .returned (.tuple #[.int .i64 0, .int .i64 3]) ∧ w' = W) := fun W e => by
    rw [← hv]
    exact order_not x n W (hx.ext e) hn h8 hE
  have C3 : Hid (∀ W, Ext w W → Calls Try.prog 9 #[.slice x.a n x.c] W fun e w' => e = .returned (.bool false) ∧ w' = W) := fun W e => by
    rw [← hv]
    refine (once_nums x n W (hx.ext e) hn h8).mono ?_
    rintro e w' ⟨⟨r, rfl, hr⟩, rfl⟩
    refine ⟨ret_bool ?_, rfl⟩
    cases r with
    | false => rfl
    | true => exact absurd (hr.1 rfl) hE
  have c2 := list_good n i h8 hi w
  obtain ⟨t1, t2⟩ := li_ok n (frst n) i (frst_length n) (frst_up n) hi
  have few : i ≤ 40320 := by have := fc_few' h8; omega
  obtain ⟨T, hT⟩ : ∃ T, li n (frst n) i = T := ⟨_, rfl⟩
  rw [hT] at c2 t1 t2
  have C6 : Hid (∀ (y : Nm) W, Nums W y → y.z = T → Calls Try.prog 7 #[y.v] W fun e w' => e = .returned (.tuple #[.int .i64 (i : Nat), .int .i64 0]) ∧ w' = W) := fun y W hy e => by
    have := order_nums y n W hy (by rw [e]; exact (perm_frst t1).1) h8 (by rw [e]; exact (perm_frst t1).2)
    rw [e, t2] at this
    exact this
  have LT : Hid (T.length = n) := (perm_frst t1).1
  clear hT t1 t2
  have hcm := hx.2.1
  have hcl := hx.1
  rw [hn] at hcl
  unfold maxLen at hcm
  generalize x.a = xa at *
  generalize x.c = xc at *
  generalize x.z = z at *
  clear hx hv hn hE
  go_enter Try.func4, Try.ntmps4
  go_wp2_with fail
  refine (C1.out w (Ext.refl w)).mono ?_
  rintro e w0 ⟨rfl, rfl⟩
  clear C1
  go_wp2_with fail
  refine c2.mono ?_
  rintro e w1 ⟨v1, rfl, hO1⟩
  obtain ⟨y1, hv1, hy1, hN1⟩ := hO1.nums
  have E1 : Hid (Ext w0 w1) := hO1.1
  have hl1 : y1.z.length = n := by rw [hy1, LT.out]
  have hv2 : y1.v = .slice y1.a n y1.c := by rw [← hl1]
  have c6 : Hid (∀ W, Ext w1 W → Calls Try.prog 7 #[.slice y1.a n y1.c] W fun e w' => e = .returned (.tuple #[.int .i64 (i : Nat), .int .i64 0]) ∧ w' = W) := fun W e => by
    rw [← hv2]
    exact C6.out y1 W (hN1.ext e) hy1
  rw [hv2] at hv1
  clear c2 hO1 hy1 hN1 C6 LT hl1 hv2
  generalize y1.a = ya at *
  generalize y1.c = yc at *
  subst hv1
  go_wp2_with fail
  refine (C3.out w1 E1.out).mono ?_
  rintro e w2 ⟨rfl, rfl⟩
  clear C3
  have E4 : Hid (Ext w2 w2) := Ext.refl _
  go_wp2_with fail
  refine (c6.out w2 E4.out).mono ?_
  rintro e w6 ⟨rfl, rfl⟩
  clear c6
  go_wp2
  go_ret
  exact ⟨ret_bool (by simp), E1.out.trans E4.out⟩

set_option maxHeartbeats 1000000 in
theorem rankList_nb (x : Nm) (n : Nat) (i : Int) (w : World) (hx : Nums w x) (hn : x.z.length = n) (h8 : n ≤ 8) (hE : ¬ Each x.z) (hi : ¬ (0 ≤ i ∧ i < (fc n : Nat))) : Calls Try.prog 4 #[.slice x.a n x.c, .int .i64 i] w fun e w' => e = .returned (.bool true) ∧ Ext w w' := by
  have hv : x.v = .slice x.a n x.c := by rw [← hn]
  have C1 : Hid (∀ W, Ext w W → Calls Try.prog 7 #[.slice x.a n x.c] W fun e w' => e = .returned (.tuple #[.int .i64 0, .int .i64 3]) ∧ w' = W) := fun W e => by
    rw [← hv]
    exact order_not x n W (hx.ext e) hn h8 hE
  have C3 : Hid (∀ W, Ext w W → Calls Try.prog 9 #[.slice x.a n x.c] W fun e w' => e = .returned (.bool false) ∧ w' = W) := fun W e => by
    rw [← hv]
    refine (once_nums x n W (hx.ext e) hn h8).mono ?_
    rintro e w' ⟨⟨r, rfl, hr⟩, rfl⟩
    refine ⟨ret_bool ?_, rfl⟩
    cases r with
    | false => rfl
    | true => exact absurd (hr.1 rfl) hE
  have c2 := list_none n i h8 hi w
  have hpos := fc_pos n
  have hcm := hx.2.1
  have hcl := hx.1
  rw [hn] at hcl
  unfold maxLen at hcm
  generalize x.a = xa at *
  generalize x.c = xc at *
  generalize x.z = z at *
  generalize fc n = F at *
  clear hx hv hn hE
  go_enter Try.func4, Try.ntmps4
  go_wp2_with fail
  refine (C1.out w (Ext.refl w)).mono ?_
  rintro e w0 ⟨rfl, rfl⟩
  clear C1
  go_wp2_with fail
  refine c2.mono ?_
  rintro e w1 ⟨rfl, rfl⟩
  have E1 : Hid (Ext w1 w1) := Ext.refl _
  clear c2
  go_wp2_with fail
  refine (C3.out w1 E1.out).mono ?_
  rintro e w2 ⟨rfl, rfl⟩
  clear C3
  have E4 : Hid (Ext w2 w2) := Ext.refl _
  rcases Int.lt_or_le i 0 with h0 | h0
  · go_wp2
    go_ret
    exact ⟨ret_bool (by simp), E4.out⟩
  · have h1 : 0 < i := by omega
    go_wp2
    go_ret
    exact ⟨ret_bool (by simp), E4.out⟩

theorem rankList_walk (x : Nm) (i : Int) (w : World) (hx : Nums w x) : Calls Try.prog 4 #[x.v, .int .i64 i] w fun e w' => e = .returned (.bool true) ∧ Ext w w' := by
  obtain ⟨n, hn⟩ : ∃ n, x.z.length = n := ⟨_, rfl⟩
  have hv : x.v = .slice x.a n x.c := by rw [← hn]
  rw [hv]
  by_cases h8 : n ≤ 8
  · by_cases hi : 0 ≤ i ∧ i < (fc n : Nat)
    · obtain ⟨I, rfl⟩ : ∃ I : Nat, i = I := ⟨i.toNat, by omega⟩
      by_cases hE : Each x.z
      · exact rankList_eg x n I w hx hn h8 hE (by omega)
      · exact rankList_ng x n I w hx hn h8 hE (by omega)
    · by_cases hE : Each x.z
      · exact rankList_eb x n i w hx hn h8 hE hi
      · exact rankList_nb x n i w hx hn h8 hE hi
  · have hcm := hx.2.1
    have hcl := hx.1
    rw [hn] at hcl
    have c1 := order_large x.a n x.c w (by omega) (by omega)
    have c2 := list_large n i (cer_high (by omega)) w
    unfold maxLen at hcm
    generalize x.a = xa at *
    generalize x.c = xc at *
    clear hx hv hn
    go_enter Try.func4, Try.ntmps4
    go_wp2_with fail
    refine c1.mono ?_
    rintro e w1 ⟨rfl, rfl⟩
    clear c1
    go_wp2_with fail
    refine c2.mono ?_
    rintro e w2 ⟨rfl, rfl⟩
    clear c2
    go_wp2
    go_ret
    exact ⟨rfl, Ext.refl _⟩

set_option maxRecDepth 100000 in
theorem rankList_lifted (os : Os) (started : os.Started) (H : Type) (enc : TypeId × Value → H) :
    ReturnsInHanded {} Try.checked os 4 .any (Rows.rankListSpec.pre6 enc Try.prog Try.f4 Rows.rankListRow.domain false) (Rows.rankListSpec.post enc Try.prog Try.f4 false true false false) := by
  refine returnsInHanded_of_change (C := Try.checked) own started (by kernel_rfl) Try.func4
    (ChangeSpec.witness6 (enc := enc) (C := Try.checked) false ⟨#[], #[.slice none 0 0, .int .i64 0], []⟩ 8 (by kernel_rfl) (by kernel_rfl) (by kernel_rfl) (by kernel_rfl)) ?_
  intro W base args ds gs before hval0 hW _ _
  have hval : ∀ (j : Nat) t v, Try.f4.params[j]? = some t → args[j]? = some v → Value.okWide Try.prog W .any base t v := hval0
  have hW' := hW
  obtain ⟨p, q, hA0, hV, rfl, hfz, hnd⟩ := hW
  have hA : DataW.TrodAll enc Try.prog W 0 (fun _ => true) true Try.f4.params.toList args.toList ds p := hA0
  rw [Try.params4] at hA hval
  obtain ⟨v0, vs0, d0, ds0, p0, q0, hargs, rfl, rfl, h0, r0⟩ := trodAll_cons hA
  obtain ⟨v1, vs1, d1, ds1, p1, q1, rfl, rfl, rfl, h1, r1⟩ := trodAll_cons r0
  obtain ⟨rfl, rfl, rfl⟩ := trodAll_nil r1
  obtain rfl : args = #[v0, v1] := by cases args; simp_all
  obtain ⟨rfl, rfl⟩ := trodVars_none hV
  have lt0 : ∀ x ∈ p0, x.block < W.heap.size := by obtain ⟨m, hm⟩ := h0; exact DataW.trod_lt m _ _ _ hm
  obtain ⟨x0, rfl, w0⟩ := open_syms (hval 0 27 v0 rfl rfl) h0
  have lt1 : ∀ x ∈ p1, x.block < W.heap.size := by obtain ⟨m, hm⟩ := h1; exact DataW.trod_lt m _ _ _ hm
  obtain ⟨x1, rfl, -, -, wf1⟩ := open_int Try.underlying2 (hval 1 2 v1 rfl rfl) h1
  clear hA0 hval0
  refine (rankList_walk x0 x1 W w0).mono fun e W' ⟨he, bel⟩ => ?_
  subst he
  exact ⟨_, rfl, _, _, _, [], _, [], hW', trodAll_mk1 (shut_bool Try.underlying4 _), (trodAll_cons_mk (Below.trod laidOut (by kernel_rfl) (of_decide_eq_true (by kernel_rfl)) h0 bel lt0) (trodAll_cons_mk (Below.trod laidOut (by kernel_rfl) (of_decide_eq_true (by kernel_rfl)) h1 bel lt1) trodAll_mk0)), rfl, bel.frame _, fun h => by cases h⟩

theorem rankList_holds : Rows.RankListSaid :=
  OpenClaim.holds_of_wide 4 Try.f4 rfl rfl rfl rfl rfl rfl rfl ⟨rfl, rfl, rfl, rfl, rfl⟩ rfl rfl rfl rfl rfl (by kernel_rfl) Try.func4 (by kernel_rfl)
    (of_decide_eq_true (by kernel_rfl)) (by unfold Func.isWrapper; rw [if_neg (of_decide_eq_false (by kernel_rfl))]; exact ⟨rfl, rfl⟩)
    (fun os started H enc _ => rankList_lifted os started H enc)

#print axioms rankList_holds

end Go.Proofs.Ytencpkmojjbjcab
