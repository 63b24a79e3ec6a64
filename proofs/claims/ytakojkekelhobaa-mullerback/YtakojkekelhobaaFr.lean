/-
  muller.Size, Put, Get.
-/
import Derived.Test.YtakojkekelhobaaMv
namespace Go.Proofs.Ytakojkekelhobaa
open Go.RowKit
set_option linter.unusedVariables false

theorem mce_nat {r m : Nat} (hm : m ≤ 4) (hr : r ≤ m) : mce (r : Int) (m : Int) = 0 := mce_ok (by omega)

theorem Size_bad (r m : Int) (h : mce r m = 4) (w : World) : Calls Try.prog 8 #[.int .i64 r, .int .i64 m] w fun e w' => e = .returned (.tuple #[.int .i64 0, .int .i64 4]) ∧ w' = w := by
  have c1 := checkRange_any r m w
  rw [h] at c1
  clear h
  go_enter Try.func8, Try.ntmps8
  go_wp2_with fail
  refine c1.mono ?_
  rintro e w1 ⟨rfl, rfl⟩
  clear c1
  go_wp2
  go_ret2
  exact ⟨rfl, rfl⟩

theorem Size_good {r m : Nat} (hm : m ≤ 4) (hr : r ≤ m) (w : World) : Calls Try.prog 8 #[.int .i64 r, .int .i64 m] w fun e w' => e = .returned (.tuple #[.int .i64 ((pl m (r + 1)).length : Nat), .int .i64 0]) ∧ Ext w w' := by
  have c1 := checkRange_any r m w
  rw [mce_nat hm hr] at c1
  have U : Hid (∀ W, Calls Try.prog 18 #[.int .i64 r, .int .i64 m] W fun e w' => ∃ a c, e = .returned (.slice a (pl m (r + 1)).length c) ∧ Ext W w') := fun W => by
    refine (upTo_any r m hm hr W).mono ?_
    rintro e w' ⟨x, rfl, hz, _, E⟩
    exact ⟨x.a, x.c, by rw [Um.v, hz], E⟩
  generalize (pl m (r + 1)).length = n at *
  clear hm hr
  go_enter Try.func8, Try.ntmps8
  go_wp2_with fail
  refine c1.mono ?_
  rintro e w1 ⟨rfl, rfl⟩
  clear c1
  go_wp2_with fail
  refine (U.out _).mono ?_
  rintro e w2 ⟨a, c, rfl, E⟩
  have E' : Hid (Ext w1 w2) := E
  clear U E
  go_wp2
  go_ret2
  exact ⟨rfl, E'.out⟩

theorem Put_bad (r m : Int) (x : Wd) (h : mce r m = 4) (w : World) : Calls Try.prog 11 #[.int .i64 r, .int .i64 m, x.v] w fun e w' => e = .returned (.tuple #[.slice none 0 0, .int .i64 4]) ∧ w' = w := by
  have c1 := checkRange_any r m w
  rw [h] at c1
  clear h
  simp only [Wd.v]
  go_enter Try.func11, Try.ntmps11
  go_wp2_with fail
  refine c1.mono ?_
  rintro e w1 ⟨rfl, rfl⟩
  clear c1
  go_wp2
  go_ret2
  exact ⟨rfl, rfl⟩

theorem Put_form {r m : Nat} (hm : m ≤ 4) (hr : r ≤ m) (x : Wd) (hl : x.l.length ≠ (pl m (r + 1)).length) (w : World) : Calls Try.prog 11 #[.int .i64 r, .int .i64 m, x.v] w fun e w' => e = .returned (.tuple #[.slice none 0 0, .int .i64 3]) ∧ Ext w w' := by
  have c1 := checkRange_any r m w
  rw [mce_nat hm hr] at c1
  have U : Hid (∀ W, Calls Try.prog 18 #[.int .i64 r, .int .i64 m] W fun e w' => ∃ a c, e = .returned (.slice a (pl m (r + 1)).length c) ∧ Ext W w') := fun W => by
    refine (upTo_any r m hm hr W).mono ?_
    rintro e w' ⟨x, rfl, hz, _, E⟩
    exact ⟨x.a, x.c, by rw [Um.v, hz], E⟩
  simp only [Wd.v]
  generalize x.l.length = k at *
  generalize (pl m (r + 1)).length = n at *
  have hne : ((k : Int) != (n : Int)) = true := bne_iff_ne.2 (by omega)
  have hne2 : ¬ (k : Int) = (n : Int) := by omega
  clear hm hr hl
  go_enter Try.func11, Try.ntmps11
  go_wp2_with fail
  refine c1.mono ?_
  rintro e w1 ⟨rfl, rfl⟩
  clear c1
  go_wp2_with fail
  refine (U.out _).mono ?_
  rintro e w2 ⟨a, c, rfl, E⟩
  have E' : Hid (Ext w1 w2) := E
  clear U E
  go_wp2
  go_ret2
  exact ⟨rfl, E'.out⟩

theorem Put_good {r m : Nat} (hm : m ≤ 4) (hr : r ≤ m) (x : Wd) (hl : x.l.length = (pl m (r + 1)).length) (w : World) (hx : Bits w x) :
    Calls Try.prog 11 #[.int .i64 r, .int .i64 m, x.v] w fun e w' => ∃ d : Wd, e = .returned (.tuple #[d.v, .int .i64 0]) ∧ d.l = bl (cw (pl m (r + 1)) (fun i => x.l.getD i false)) (2 ^ m) ∧ Bits w' d ∧ Ext w w' := by
  have c1 := checkRange_any r m w
  rw [mce_nat hm hr] at c1
  have U : Hid (∀ W, Calls Try.prog 18 #[.int .i64 r, .int .i64 m] W fun e w' => ∃ y : Um, e = .returned (.slice y.a (pl m (r + 1)).length y.c) ∧ y.z = pl m (r + 1) ∧ Us w' y ∧ Ext W w') := fun W => by
    refine (upTo_any r m hm hr W).mono ?_
    rintro e w' ⟨x, rfl, hz, hu, E⟩
    exact ⟨x, by rw [Um.v, hz], hz, hu, E⟩
  have S : Hid (∀ (y : Um) W, y.z = pl m (r + 1) → Us W y → Ext w W → Calls Try.prog 20 #[.int .i64 m, .slice y.a (pl m (r + 1)).length y.c, .slice x.a (pl m (r + 1)).length x.c] W fun e w' => ∃ d : Wd, e = .returned d.v ∧ d.l = bl (cw (pl m (r + 1)) (fun i => x.l.getD i false)) (2 ^ m) ∧ Bits w' d ∧ Ext W w') := fun y W hz hu E => by
    have few := l_few hm hr
    have lim := pow_lim hm
    have c := sumOf_any m hm y x (by rw [hl, hz]) (by rw [hz]; exact few) (fun i hi => by
      rw [hz] at hi ⊢
      have := (l_at hm hr hi).2
      omega) W hu (hx.ext E)
    rw [Um.v, Wd.v, hl, hz] at c
    refine c.mono ?_
    rintro e w' ⟨d, he, hd, hb, hE, _⟩
    exact ⟨d, he, hd, hb, hE⟩
  simp only [Wd.v]
  rw [hl]
  generalize bl (cw (pl m (r + 1)) (fun i => x.l.getD i false)) (2 ^ m) = R at *
  have HZ : Hid (∀ y : Um, y.z = pl m (r + 1) → y.z = pl m (r + 1)) := fun _ h => h
  generalize (pl m (r + 1)).length = n at *
  generalize pl m (r + 1) = L at *
  generalize x.a = xa at *
  generalize x.c = xc at *
  clear hm hr hl hx x HZ
  go_enter Try.func11, Try.ntmps11
  go_wp2_with fail
  refine c1.mono ?_
  rintro e w1 ⟨rfl, rfl⟩
  clear c1
  go_wp2_with fail
  refine (U.out _).mono ?_
  rintro e w2 ⟨y, rfl, hz, hu, E⟩
  have c3 := S.out y w2 hz hu E
  have E' : Hid (Ext w1 w2) := E
  clear U S E hz hu
  generalize y.a = ya at *
  generalize y.c = yc at *
  clear y
  go_wp2_with fail
  refine c3.mono ?_
  rintro e w3 ⟨d, rfl, hd, hb, hE⟩
  have E2 : Hid (Ext w1 w3) := E'.out.trans hE
  have HD : Hid (d.l = R ∧ Bits w3 d) := ⟨hd, hb⟩
  clear c3 E' hd hb hE
  go_wp2
  go_ret2
  exact ⟨d, rfl, HD.out.1, HD.out.2, E2.out⟩

theorem Get_bad (r m : Int) (x : Wd) (h : mce r m = 4) (w : World) : Calls Try.prog 14 #[.int .i64 r, .int .i64 m, x.v] w fun e w' => e = .returned (.tuple #[.slice none 0 0, .int .i64 4]) ∧ w' = w := by
  have c1 := checkRange_any r m w
  rw [h] at c1
  clear h
  simp only [Wd.v]
  go_enter Try.func14, Try.ntmps14
  go_wp2_with fail
  refine c1.mono ?_
  rintro e w1 ⟨rfl, rfl⟩
  clear c1
  go_wp2
  go_ret2
  exact ⟨rfl, rfl⟩

theorem Get_form {r m : Nat} (hm : m ≤ 4) (hr : r ≤ m) (x : Wd) (hl : x.l.length ≠ 2 ^ m) (w : World) : Calls Try.prog 14 #[.int .i64 r, .int .i64 m, x.v] w fun e w' => e = .returned (.tuple #[.slice none 0 0, .int .i64 3]) ∧ w' = w := by
  have c1 := checkRange_any r m w
  rw [mce_nat hm hr] at c1
  have pw := pow_four m hm
  simp only [Wd.v]
  generalize x.l.length = k at *
  generalize 2 ^ m = n at *
  have hne : ((k : Int) != (n : Int)) = true := bne_iff_ne.2 (by omega)
  have hne2 : ¬ (k : Int) = (n : Int) := by omega
  clear hr hl
  go_enter Try.func14, Try.ntmps14
  go_wp2_with fail
  refine c1.mono ?_
  rintro e w1 ⟨rfl, rfl⟩
  clear c1
  go_wp2
  go_ret2
  exact ⟨rfl, rfl⟩

theorem Get_good {r m : Nat} (hm : m ≤ 4) (hr : r ≤ m) (x : Wd) (hl : x.l.length = 2 ^ m) (w : World) (hx : Bits w x) :
    Calls Try.prog 14 #[.int .i64 r, .int .i64 m, x.v] w fun e w' => ∃ d : Wd, e = .returned (.tuple #[d.v, .int .i64 0]) ∧ d.l = bl (gd (2 ^ m) (pl m (r + 1)) r (fun i => x.l.getD i false) (r + 1)) (pl m (r + 1)).length ∧ Bits w' d ∧ Ext w w' := by
  have c1 := checkRange_any r m w
  rw [mce_nat hm hr] at c1
  have pw := pow_four m hm
  have U : Hid (∀ W, Calls Try.prog 18 #[.int .i64 r, .int .i64 m] W fun e w' => ∃ y : Um, e = .returned (.slice y.a (pl m (r + 1)).length y.c) ∧ y.z = pl m (r + 1) ∧ Us w' y ∧ Ext W w') := fun W => by
    refine (upTo_any r m hm hr W).mono ?_
    rintro e w' ⟨x, rfl, hz, hu, E⟩
    exact ⟨x, by rw [Um.v, hz], hz, hu, E⟩
  have S : Hid (∀ (y : Um) W, y.z = pl m (r + 1) → Us W y → Ext w W → Calls Try.prog 21 #[.int .i64 m, .slice y.a (pl m (r + 1)).length y.c, .slice x.a (2 ^ m : Nat) x.c] W fun e w' => ∃ d : Wd, e = .returned d.v ∧ d.l = bl (gd (2 ^ m) (pl m (r + 1)) r (fun i => x.l.getD i false) (r + 1)) (pl m (r + 1)).length ∧ Bits w' d ∧ Ext W w') := fun y W hz hu E => by
    have c := mostVotes_any m r hm hr y hz x hl W hu (hx.ext E)
    rw [Um.v, Wd.v, hl, hz] at c
    exact c
  simp only [Wd.v]
  rw [hl]
  generalize bl (gd (2 ^ m) (pl m (r + 1)) r (fun i => x.l.getD i false) (r + 1)) (pl m (r + 1)).length = R at *
  generalize (pl m (r + 1)).length = n at *
  generalize pl m (r + 1) = L at *
  generalize 2 ^ m = M at *
  generalize x.a = xa at *
  generalize x.c = xc at *
  clear hr hl hx x
  go_enter Try.func14, Try.ntmps14
  go_wp2_with fail
  refine c1.mono ?_
  rintro e w1 ⟨rfl, rfl⟩
  clear c1
  go_wp2_with fail
  refine (U.out _).mono ?_
  rintro e w2 ⟨y, rfl, hz, hu, E⟩
  have c3 := S.out y w2 hz hu E
  have E' : Hid (Ext w1 w2) := E
  clear U S E hz hu
  generalize y.a = ya at *
  generalize y.c = yc at *
  clear y
  go_wp2_with fail
  refine c3.mono ?_
  rintro e w3 ⟨d, rfl, hd, hb, hE⟩
  have E2 : Hid (Ext w1 w3) := E'.out.trans hE
  have HD : Hid (d.l = R ∧ Bits w3 d) := ⟨hd, hb⟩
  clear c3 E' hd hb hE
  go_wp2
  go_ret2
  exact ⟨d, rfl, HD.out.1, HD.out.2, E2.out⟩

end Go.Proofs.Ytakojkekelhobaa
