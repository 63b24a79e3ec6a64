/-
  For any numbers, some of which are lost, the program tells the data, or that there are none: PointsFills returns true for every number of data, all numbers and all marks, and changes nothing.
-/
import Derived.Test.YtjdipgkdaloclaaOpb
import Derived.Test.YtjdipgkdaloclaaFm
import Derived.ProofKit
namespace Go.Proofs.Ytjdipgkdaloclaa
open Go.ChangeShapes Go.WideShapes Go.ChangeAt Go.RowKit Go.Deep
set_option linter.unusedVariables false

theorem ints_nil (w : World) : Calls Try.prog 9 #[.slice none 0 0, .slice none 0 0] w fun e w' => e = .returned (.bool true) ∧ Qt w w' := ints_any ⟨none, 0, []⟩ ⟨none, 0, []⟩ w (nil_nums w) (nil_nums w)

set_option maxRecDepth 100000 in
theorem fills_counts (k : Int) (y : Nm) (x : Bd) (h0 : pc k y.z.length ≠ 0) (w : World) : Calls Try.prog 4 #[.int .i64 k, y.v, x.v] w fun e w' => e = .returned (.bool true) ∧ Ext w w' := by
  obtain ⟨X, hX⟩ : ∃ X, pc k y.z.length = X := ⟨_, rfl⟩
  have c1 := Fill_counts k y x X hX (by rw [← hX]; exact h0) w
  have c2 : Hid (∀ W, Calls Try.prog 12 #[.int .i64 k, y.v] W fun e w' => e = .returned (.int .i64 X) ∧ w' = W) := fun W => by
    have := refCounts_any k y W
    rw [hX] at this
    exact this
  have hz : (X == 0) = false := beq_eq_false_iff_ne.2 (by rw [← hX]; exact h0)
  clear h0 hX
  simp only [Nm.v, Bd.v] at *
  generalize hn : y.z.length = n at *
  generalize x.l.length = m at *
  clear hn
  have hb : Hid (∀ W, Calls Try.prog 9 #[.slice none 0 0, .slice none 0 0] W fun e w' => e = .returned (.bool true) ∧ Qt W w') := ints_nil
  go_enter Try.func4, Try.ntmps4
  go_wp2_with fail
  refine c1.mono ?_
  rintro e w1 ⟨rfl, E1⟩
  have k2 := c2.out w1
  have E : Hid (Ext w w1) := E1
  clear c1 c2 E1
  go_wp2_with fail
  refine k2.mono ?_
  rintro e w' ⟨rfl, hh⟩
  have hh := hh.symm
  subst hh
  clear k2
  have k3 := hb.out w1
  clear hb
  go_wp2_with fail
  go_loopg [9, 10] 1 (fun gg s9 s10 wr => s9 = .int .i64 X ∧ s10 = .int .i64 0 ∧ wr = w1)
  case atStart => exact ⟨rfl, rfl, rfl⟩
  case round =>
    obtain ⟨rfl, rfl, rfl⟩ := hrel
    by_cases hn : (0 : Int) < (n : Int)
    · go_wp2_with fail
      refine k3.mono ?_
      rintro e w2 ⟨rfl, q⟩
      have E2 : Hid (Ext w w2) := E.out.trans q.ext
      clear k3 q
      go_wp2
      go_ret
      exact ⟨rfl, E2.out⟩
    · go_wp2_with fail
      refine k3.mono ?_
      rintro e w2 ⟨rfl, q⟩
      have E2 : Hid (Ext w w2) := E.out.trans q.ext
      clear k3 q
      go_wp2
      go_ret
      exact ⟨rfl, E2.out⟩

set_option maxRecDepth 100000 in
theorem fills_form (k : Int) (y : Nm) (x : Bd) (h0 : pc k y.z.length = 0) (hl : x.l.length ≠ y.z.length) (w : World) : Calls Try.prog 4 #[.int .i64 k, y.v, x.v] w fun e w' => e = .returned (.bool true) ∧ Ext w w' := by
  have c1 := Fill_form k y x h0 hl w
  have c2 : Hid (∀ W, Calls Try.prog 12 #[.int .i64 k, y.v] W fun e w' => e = .returned (.int .i64 0) ∧ w' = W) := fun W => by
    have := refCounts_any k y W
    rw [h0] at this
    exact this
  have hz : (((x.l.length : Nat) : Int) != ((y.z.length : Nat) : Int)) = true := bne_iff_ne.2 (by omega)
  have hn0 : (0 : Int) < (y.z.length : Int) := by have := pc_zero h0; omega
  clear h0 hl
  simp only [Nm.v, Bd.v] at *
  generalize y.z.length = n at *
  generalize x.l.length = m at *
  have hb : Hid (∀ W, Calls Try.prog 9 #[.slice none 0 0, .slice none 0 0] W fun e w' => e = .returned (.bool true) ∧ Qt W w') := ints_nil
  go_enter Try.func4, Try.ntmps4
  go_wp2_with fail
  refine c1.mono ?_
  rintro e w1 ⟨rfl, E1⟩
  have k2 := c2.out w1
  have E : Hid (Ext w w1) := E1
  clear c1 c2 E1
  go_wp2_with fail
  refine k2.mono ?_
  rintro e w' ⟨rfl, hh⟩
  have hh := hh.symm
  subst hh
  clear k2
  have k3 := hb.out w1
  clear hb
  go_wp2_with fail
  go_loopg [9, 10] 1 (fun gg s9 s10 wr => s9 = .int .i64 3 ∧ s10 = .int .i64 0 ∧ wr = w1)
  case atStart => exact ⟨rfl, rfl, rfl⟩
  case round =>
    obtain ⟨rfl, rfl, rfl⟩ := hrel
    go_wp2_with fail
    refine k3.mono ?_
    rintro e w2 ⟨rfl, q⟩
    have E2 : Hid (Ext w w2) := E.out.trans q.ext
    clear k3 q
    go_wp2
    go_ret
    exact ⟨rfl, E2.out⟩

set_option maxRecDepth 100000 in
theorem fills_range (k : Nat) (y : Nm) (x : Bd) (hk1 : 1 ≤ k) (hk2 : k ≤ y.z.length) (hn : y.z.length ≤ 9) (hl : x.l.length = y.z.length) (ho : ¬ okl y.z x.l) (w : World) (hy : Nums w y) (hx : Bls w x) : Calls Try.prog 4 #[.int .i64 k, y.v, x.v] w fun e w' => e = .returned (.bool true) ∧ Ext w w' := by
  have c1 := Fill_any k y x hk1 hk2 hn hl 4 [] (fun _ => ⟨rfl, rfl⟩) (fun h => absurd h ho) w hy hx
  have c2 : Hid (∀ W, Calls Try.prog 12 #[.int .i64 k, y.v] W fun e w' => e = .returned (.int .i64 0) ∧ w' = W) := fun W => by
    have := refCounts_any k y W
    rw [pc_good (by omega) (by omega) (by omega)] at this
    exact this
  have hb : Hid (∀ W (m : Nm), m.z = [] → Nums W m → Calls Try.prog 9 #[m.v, .slice none 0 0] W fun e w' => e = .returned (.bool true) ∧ Qt W w') := fun W m hm hw => by
    have := ints_any m ⟨none, 0, []⟩ W hw (nil_nums W)
    rw [hm] at this
    exact this
  obtain ⟨h1, h2, _, b, o, h3, h4⟩ := hy
  obtain ⟨k1, k2, _, xb, xo, k3, k4⟩ := hx
  rw [hl] at k1 k3 k4
  have LC : Hid (∀ i, i < y.z.length → w.cell? ⟨b, o + i, none⟩ = some (.int .i64 (y.z.getD i 0))) := h4
  have LA := h3 (by omega)
  have BC : Hid (∀ i, i < y.z.length → w.cell? ⟨xb, xo + i, none⟩ = some (.bool (x.l.getD i false))) := k4
  have BA := k3 (by omega)
  have NO : Hid (¬ ∀ i, i < y.z.length → x.l.getD i false = false → 0 ≤ y.z.getD i 0 ∧ y.z.getD i 0 ≤ 15) := ho
  have hxv : x.v = .slice (some ⟨xb, xo, none⟩) y.z.length x.c := by rw [Bd.v, BA, hl]
  have hyv : y.v = .slice (some ⟨b, o, none⟩) y.z.length y.c := by rw [Nm.v, LA]
  rw [hxv, hyv] at c1 ⊢
  rw [hyv] at c2
  clear hxv hyv h3 h4 k3 k4 LA BA ho h1 k1
  obtain ⟨Z, hZ⟩ : ∃ Z : Nat → Int, Z = fun p => y.z.getD p 0 := ⟨_, rfl⟩
  obtain ⟨B, hB⟩ : ∃ B : Nat → Bool, B = fun p => x.l.getD p false := ⟨_, rfl⟩
  have LC1 : Hid (∀ i, i < y.z.length → w.cell? ⟨b, o + i, none⟩ = some (.int .i64 (Z i))) := by rw [hZ]; exact LC.out
  have BC1 : Hid (∀ i, i < y.z.length → w.cell? ⟨xb, xo + i, none⟩ = some (.bool (B i))) := by rw [hB]; exact BC.out
  have NO1 : Hid (¬ ∀ i, i < y.z.length → B i = false → 0 ≤ Z i ∧ Z i ≤ 15) := by rw [hZ, hB]; exact NO.out
  clear hZ hB LC BC NO
  generalize y.c = yc at *
  generalize x.c = xc at *
  generalize y.z.length = n at *
  have hn0 : (0 : Int) < (n : Int) := by omega
  go_enter Try.func4, Try.ntmps4
  go_wp2_with fail
  refine c1.mono ?_
  rintro e w1 ⟨E1, m, rfl, hm, hN⟩
  have k2 := c2.out w1
  have k3 := hb.out w1 m hm hN
  have E : Hid (Ext w w1) := E1
  clear c1 c2 E1 hb hN hm
  simp only [Nm.v] at *
  generalize m.z.length = ml at *
  generalize m.a = ma at *
  generalize m.c = mc at *
  go_wp2_with fail
  refine k2.mono ?_
  rintro e w' ⟨rfl, hh⟩
  have hh := hh.symm
  subst hh
  clear k2
  go_wp2_with fail
  go_loopg [9, 10] (n + 1) (fun gg s9 s10 wr => ∃ i : Nat, i ≤ n ∧ n + 1 - i ≤ gg ∧ s10 = .int .i64 i ∧ wr = w1 ∧ ((s9 = .int .i64 0 ∧ Aside (∀ j, j < i → B j = false → 0 ≤ Z j ∧ Z j ≤ 15)) ∨ s9 = .int .i64 4))
  case atStart => exact ⟨0, by omega, by omega, rfl, rfl, .inl ⟨rfl, fun j hj => absurd hj (Nat.not_lt_zero _)⟩⟩
  case round =>
    obtain ⟨i, hi, hgg, rfl, rfl, ⟨rfl, A⟩ | rfl⟩ := hrel
    · by_cases hlt : i < n
      · have hltz : (i : Int) < (n : Int) := by omega
        have e1 := E.out.cell (LC1.out i hlt)
        have e2 := E.out.cell (BC1.out i hlt)
        have go : Aside ((B i = false → 0 ≤ Z i ∧ Z i ≤ 15) → ∀ j, j < i + 1 → B j = false → 0 ≤ Z j ∧ Z j ≤ 15) := fun h j hj => by
          rcases Nat.lt_succ_iff_lt_or_eq.1 hj with h' | rfl
          · exact A.out j h'
          · exact h
        clear A
        cases hq : B i
        · rw [hq] at e2
          rcases Int.lt_or_le (Z i) 0 with h0 | h0
          · clear go
            generalize Z i = zi at *
            clear hq
            go_wp2
            go_roundg (n + 1 - (i + 1))
            case measure => omega
            case rel => exact ⟨i + 1, by omega, by omega, by go_num, rfl, .inr rfl⟩
          · rcases Int.lt_or_le 15 (Z i) with h5 | h5
            · clear go
              generalize Z i = zi at *
              clear hq
              go_wp2
              go_roundg (n + 1 - (i + 1))
              case measure => omega
              case rel => exact ⟨i + 1, by omega, by omega, by go_num, rfl, .inr rfl⟩
            · have G : Aside (∀ j, j < i + 1 → B j = false → 0 ≤ Z j ∧ Z j ≤ 15) := go.out (fun _ => ⟨h0, h5⟩)
              clear go hq
              have h6 : ¬ (15 : Int) < Z i := by omega
              generalize hzz : Z i = zi at *
              clear hzz
              go_wp2
              go_roundg (n + 1 - (i + 1))
              case measure => omega
              case rel => exact ⟨i + 1, by omega, by omega, by go_num, rfl, .inl ⟨rfl, G.out⟩⟩
        · rw [hq] at e2
          have G : Aside (∀ j, j < i + 1 → B j = false → 0 ≤ Z j ∧ Z j ≤ 15) := go.out (fun h => by rw [hq] at h; cases h)
          clear go hq
          go_wp2
          go_roundg (n + 1 - (i + 1))
          case measure => omega
          case rel => exact ⟨i + 1, by omega, by omega, by go_num, rfl, .inl ⟨rfl, G.out⟩⟩
      · exact absurd (fun j hj hb => A.out j (by omega) hb) NO1.out
    · clear LC1 BC1 NO1
      by_cases hlt : (i : Int) < (n : Int)
      · go_wp2_with fail
        refine k3.mono ?_
        rintro e w2 ⟨rfl, q⟩
        have E2 : Hid (Ext w w2) := E.out.trans q.ext
        clear k3 q
        go_wp2
        go_ret
        exact ⟨rfl, E2.out⟩
      · go_wp2_with fail
        refine k3.mono ?_
        rintro e w2 ⟨rfl, q⟩
        have E2 : Hid (Ext w w2) := E.out.trans q.ext
        clear k3 q
        go_wp2
        go_ret
        exact ⟨rfl, E2.out⟩

set_option maxRecDepth 100000 in
theorem fills_good (k : Nat) (y : Nm) (x : Bd) (hk1 : 1 ≤ k) (hk2 : k ≤ y.z.length) (hn : y.z.length ≤ 9) (hl : x.l.length = y.z.length) (ho : okl y.z x.l) (w : World) (hy : Nums w y) (hx : Bls w x) : Calls Try.prog 4 #[.int .i64 k, y.v, x.v] w fun e w' => e = .returned (.bool true) ∧ Ext w w' := by
  have c1 := Fill_any k y x hk1 hk2 hn hl _ _ (fun h => absurd ho h) (fun _ => ⟨rfl, rfl⟩) w hy hx
  have c2 : Hid (∀ W, Calls Try.prog 12 #[.int .i64 k, y.v] W fun e w' => e = .returned (.int .i64 0) ∧ w' = W) := fun W => by
    have := refCounts_any k y W
    rw [pc_good (by omega) (by omega) (by omega)] at this
    exact this
  have c4 : Hid (∀ W, Ext w W → Calls Try.prog 13 #[.int .i64 k, y.v, x.v] W fun e w' => Ext W w' ∧ ∃ m : Nm, e = .returned (.tuple #[m.v, .int .i64 (fil y.z x.l k (nd (lf y.z) (pf x.l y.z.length) k))]) ∧ m.z = fin y.z x.l k (nd (lf y.z) (pf x.l y.z.length) k) ∧ Nums w' m) := fun W E => by
    have := Filled_any k y x hk1 hk2 hn hl ho W (hy.ext E) (hx.ext E)
    rw [(fil_same (k := k) hn ho).1, (fil_same (k := k) hn ho).2] at this
    exact this
  obtain ⟨h1, h2, _, b, o, h3, h4⟩ := hy
  obtain ⟨k1, k2, _, xb, xo, k3, k4⟩ := hx
  rw [hl] at k1 k3 k4
  have LC : Hid (∀ i, i < y.z.length → w.cell? ⟨b, o + i, none⟩ = some (.int .i64 (y.z.getD i 0))) := h4
  have LA := h3 (by omega)
  have BC : Hid (∀ i, i < y.z.length → w.cell? ⟨xb, xo + i, none⟩ = some (.bool (x.l.getD i false))) := k4
  have BA := k3 (by omega)
  have OK : Hid (∀ i, i < y.z.length → x.l.getD i false = false → 0 ≤ y.z.getD i 0 ∧ y.z.getD i 0 ≤ 15) := ho
  have hxv : x.v = .slice (some ⟨xb, xo, none⟩) y.z.length x.c := by rw [Bd.v, BA, hl]
  have hyv : y.v = .slice (some ⟨b, o, none⟩) y.z.length y.c := by rw [Nm.v, LA]
  rw [hxv, hyv] at c1 c4 ⊢
  rw [hyv] at c2
  clear hxv hyv h3 h4 k3 k4 LA BA ho h1 k1
  obtain ⟨Z, hZ⟩ : ∃ Z : Nat → Int, Z = fun p => y.z.getD p 0 := ⟨_, rfl⟩
  obtain ⟨B, hB⟩ : ∃ B : Nat → Bool, B = fun p => x.l.getD p false := ⟨_, rfl⟩
  have LC1 : Hid (∀ i, i < y.z.length → w.cell? ⟨b, o + i, none⟩ = some (.int .i64 (Z i))) := by rw [hZ]; exact LC.out
  have BC1 : Hid (∀ i, i < y.z.length → w.cell? ⟨xb, xo + i, none⟩ = some (.bool (B i))) := by rw [hB]; exact BC.out
  have OK1 : Hid (∀ i, i < y.z.length → B i = false → 0 ≤ Z i ∧ Z i ≤ 15) := by rw [hZ, hB]; exact OK.out
  clear hZ hB LC BC OK
  generalize fil y.z x.l k (nd (lf y.z) (pf x.l y.z.length) k) = X at *
  generalize fin y.z x.l k (nd (lf y.z) (pf x.l y.z.length) k) = FN at *
  generalize y.c = yc at *
  generalize x.c = xc at *
  generalize y.z.length = n at *
  have hn0 : (0 : Int) < (n : Int) := by omega
  go_enter Try.func4, Try.ntmps4
  go_wp2_with fail
  refine c1.mono ?_
  rintro e w1 ⟨E1, m, rfl, hm, hN⟩
  have k2 := c2.out w1
  have k4 := c4.out w1 E1
  have N1 : Hid (m.z = FN ∧ Nums w1 m) := ⟨hm, hN⟩
  have E : Hid (Ext w w1) := E1
  clear c1 c2 E1 hN hm c4
  have hmv : m.v = .slice m.a m.z.length m.c := rfl
  obtain ⟨V, hV⟩ : ∃ V, V = m.v := ⟨_, rfl⟩
  have IN : Hid (∀ W (q : Nm), Ext w1 W → q.z = FN → Nums W q → Calls Try.prog 9 #[V, q.v] W fun e w' => e = .returned (.bool true) ∧ Qt W w') := fun W q E hq hN => by
    have := ints_any m q W (N1.out.2.ext E) hN
    rw [N1.out.1, hq, beq_self_eq_true] at this
    rw [hV]
    exact this
  rw [← hV]
  clear hV N1 hmv
  go_wp2_with fail
  refine k2.mono ?_
  rintro e w' ⟨rfl, hh⟩
  have hh := hh.symm
  subst hh
  clear k2
  go_wp2_with fail
  go_loopg [9, 10] n (fun gg s9 s10 wr => ∃ i : Nat, i ≤ n ∧ n - i ≤ gg ∧ s10 = .int .i64 i ∧ wr = w1 ∧ s9 = .int .i64 0)
  case atStart => exact ⟨0, by omega, by omega, rfl, rfl, rfl⟩
  case round =>
    obtain ⟨i, hi, hgg, rfl, rfl, rfl⟩ := hrel
    by_cases hlt : i < n
    · have hltz : (i : Int) < (n : Int) := by omega
      have e1 := E.out.cell (LC1.out i hlt)
      have e2 := E.out.cell (BC1.out i hlt)
      have go := OK1.out i hlt
      clear LC1 BC1 OK1 k4 IN
      cases hq : B i
      · rw [hq] at e2
        have h0 := (go hq).1
        have h5 := (go hq).2
        have h6 : ¬ (15 : Int) < Z i := by omega
        have h7 : ¬ Z i < (0 : Int) := by omega
        clear go hq
        generalize hzz : Z i = zi at *
        clear hzz
        go_wp2
        go_roundg (n - (i + 1))
        case measure => omega
        case rel => exact ⟨i + 1, by omega, by omega, by go_num, rfl, rfl⟩
      · rw [hq] at e2
        clear go hq
        go_wp2
        go_roundg (n - (i + 1))
        case measure => omega
        case rel => exact ⟨i + 1, by omega, by omega, by go_num, rfl, rfl⟩
    · have hnot : ¬ (i : Int) < (n : Int) := by omega
      clear LC1 BC1 OK1
      go_wp2_with fail
      refine k4.mono ?_
      rintro e w2 ⟨E2, q, rfl, hq, hN⟩
      have k5 := IN.out w2 q E2 hq hN
      have E3 : Hid (Ext w w2) := E.out.trans E2
      clear k4 IN E2 hq hN
      simp only [Nm.v] at *
      generalize q.z.length = ql at *
      generalize q.a = qa at *
      generalize q.c = qc at *
      go_wp2_with fail
      refine k5.mono ?_
      rintro e w3 ⟨rfl, qt⟩
      have E4 : Hid (Ext w w3) := E3.out.trans qt.ext
      clear k5 qt E3
      go_wp2
      go_ret
      exact ⟨rfl, E4.out⟩

theorem fills_walk (k : Int) (y : Nm) (x : Bd) (w : World) (hy : Nums w y) (hx : Bls w x) : Calls Try.prog 4 #[.int .i64 k, y.v, x.v] w fun e w' => e = .returned (.bool true) ∧ Ext w w' := by
  by_cases h0 : pc k y.z.length = 0
  · have hp := pc_zero h0
    by_cases hl : x.l.length = y.z.length
    · obtain ⟨m, rfl⟩ : ∃ m : Nat, k = m := ⟨k.toNat, by omega⟩
      by_cases ho : okl y.z x.l
      · exact fills_good m y x (by omega) (by omega) (by omega) hl ho w hy hx
      · exact fills_range m y x (by omega) (by omega) (by omega) hl ho w hy hx
    · exact fills_form k y x h0 hl w
  · exact fills_counts k y x h0 w

set_option maxRecDepth 100000 in
theorem pointsFills_lifted (os : Os) (started : os.Started) (H : Type) (enc : TypeId × Value → H) :
    ReturnsInHanded {} Try.checked os 4 .any (Rows.pointsFillsSpec.pre6 enc Try.prog Try.f4 Rows.pointsFillsRow.domain false) (Rows.pointsFillsSpec.post enc Try.prog Try.f4 false true false false) := by
  refine returnsInHanded_of_change (C := Try.checked) own started (by kernel_rfl) Try.func4
    (ChangeSpec.witness6 (enc := enc) (C := Try.checked) false ⟨#[], #[.int .i64 0, .slice none 0 0, .slice none 0 0], []⟩ 8 (by kernel_rfl) (by kernel_rfl) (by kernel_rfl) (by kernel_rfl)) ?_
  intro W base args ds gs before hval0 hW _ _
  have hval : ∀ (j : Nat) t v, Try.f4.params[j]? = some t → args[j]? = some v → Value.okWide Try.prog W .any base t v := hval0
  have hW' := hW
  obtain ⟨p, q, hA0, hV, rfl, hfz, hnd⟩ := hW
  have hA : DataW.TrodAll enc Try.prog W 0 (fun _ => true) true Try.f4.params.toList args.toList ds p := hA0
  rw [Try.params4] at hA hval
  obtain ⟨v0, vs0, d0, ds0, p0, q0, hargs, rfl, rfl, h0, r0⟩ := trodAll_cons hA
  obtain ⟨v1, vs1, d1, ds1, p1, q1, rfl, rfl, rfl, h1, r1⟩ := trodAll_cons r0
  obtain ⟨v2, vs2, d2, ds2, p2, q2, rfl, rfl, rfl, h2, r2⟩ := trodAll_cons r1
  obtain ⟨rfl, rfl, rfl⟩ := trodAll_nil r2
  obtain rfl : args = #[v0, v1, v2] := by cases args; simp_all
  obtain ⟨rfl, rfl⟩ := trodVars_none hV
  have lt0 : ∀ x ∈ p0, x.block < W.heap.size := by obtain ⟨m, hm⟩ := h0; exact DataW.trod_lt m _ _ _ hm
  obtain ⟨x0, rfl, -, -, wf0⟩ := open_int Try.underlying3 (hval 0 3 v0 rfl rfl) h0
  have lt1 : ∀ x ∈ p1, x.block < W.heap.size := by obtain ⟨m, hm⟩ := h1; exact DataW.trod_lt m _ _ _ hm
  obtain ⟨x1, rfl, w1⟩ := open_syms (hval 1 22 v1 rfl rfl) h1
  have lt2 : ∀ x ∈ p2, x.block < W.heap.size := by obtain ⟨m, hm⟩ := h2; exact DataW.trod_lt m _ _ _ hm
  obtain ⟨x2, rfl, w2⟩ := open_bits (hval 2 30 v2 rfl rfl) h2
  clear hA0 hval0
  refine (fills_walk x0 x1 x2 W w1 w2).mono fun e W' ⟨he, bel⟩ => ?_
  subst he
  exact ⟨_, rfl, _, _, _, [], _, [], hW', trodAll_mk1 (shut_bool Try.underlying4 _), (trodAll_cons_mk (Below.trod laidOut (by kernel_rfl) (of_decide_eq_true (by kernel_rfl)) h0 bel lt0) (trodAll_cons_mk (Below.trod laidOut (by kernel_rfl) (of_decide_eq_true (by kernel_rfl)) h1 bel lt1) (trodAll_cons_mk (Below.trod laidOut (by kernel_rfl) (of_decide_eq_true (by kernel_rfl)) h2 bel lt2) trodAll_mk0))), rfl, bel.frame _, fun h => by cases h⟩

theorem pointsFills_holds : Rows.PointsFillsSaid :=
  OpenClaim.holds_of_wide 4 Try.f4 rfl rfl rfl rfl rfl rfl rfl ⟨rfl, rfl, rfl, rfl, rfl⟩ rfl rfl rfl rfl rfl (by kernel_rfl) Try.func4 (by kernel_rfl)
    (of_decide_eq_true (by kernel_rfl)) (by unfold Func.isWrapper; rw [if_neg (of_decide_eq_false (by kernel_rfl))]; exact ⟨rfl, rfl⟩)
    (fun os started H enc _ => pointsFills_lifted os started H enc)

#print axioms pointsFills_holds

end Go.Proofs.Ytjdipgkdaloclaa
