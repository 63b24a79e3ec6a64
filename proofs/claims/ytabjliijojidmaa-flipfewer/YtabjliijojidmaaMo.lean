/-
  span.OddInCommon, leader.CheckWord; quipuref.Odd, quipuref.Mark, quipulaw.checked.
-/
import Derived.Test.YtabjliijojidmaaRk
import Derived.Test.YtabjliijojidmaaLm
import Derived.Test.YtabjliijojidmaaOn
import Derived.Laws.BitsAllLaws
namespace Go.Proofs.Ytabjliijojidmaa
open Go.RowKit
set_option linter.unusedVariables false

theorem getD_get {g : List Nat} {i : Nat} (h : i < g.length) : g.getD i 0 = g[i] := by
  rw [List.getD_eq_getElem?_getD, List.getElem?_eq_getElem h]; rfl
theorem rows_low {n : Nat} {g : List Nat} (hn : n ≤ 12) (h : ∀ y ∈ g, y < 2 ^ n) : ∀ y ∈ g, y < 4294967296 := fun y hy => by
  have := h y hy
  have : 2 ^ n ≤ 2 ^ 12 := Nat.pow_le_pow_right (by omega) hn
  omega

/-- span.OddInCommon. -/
theorem oddIn_any (y q : Nat) (hy : y < 4096) (hq : q < 4096) (w : World) :
    Calls Try.prog 26 #[.int .u32 (y : Nat), .int .u32 (q : Nat)] w fun e w' => e = .returned (.bool (odd y q)) ∧ Ext w w' := by
  have hm : y &&& q < 2 ^ 12 := Nat.and_lt_two_pow _ (by omega)
  have c2 := ones_any (y &&& q) (by omega) w
  have e2 := u32_and_nat y q (by omega) (by omega)
  have l1 : pop (y &&& q) ≤ 32 := popN_le 32 (y &&& q)
  unfold odd
  generalize pop (y &&& q) = P at *
  generalize y &&& q = X at *
  obtain ⟨t, ht⟩ : ∃ t, P % 2 = t := ⟨_, rfl⟩
  have qz : (P : Int).tmod 2 = (t : Int) := by
    rw [show (2 : Int) = ((2 : Nat) : Int) from rfl, ← Int.ofNat_tmod, ht]
  have hq2 : t < 2 := by omega
  rw [ht]
  clear ht
  go_enter Try.func26, Try.ntmps26
  go_wp2_with fail
  refine c2.mono ?_
  rintro e w' ⟨rfl, d, rfl⟩
  clear c2
  go_wp2
  go_ret
  exact ⟨ret_bool (by rw [Bool.eq_iff_iff, beq_iff_eq, beq_iff_eq]; omega), (Ext.refl w).drewN d⟩

theorem refOdd_any (x y : Nat) (hx : x < 4294967296) (hy : y < 4294967296) (w : World) :
    Calls Try.prog 28 #[.int .u32 (x : Nat), .int .u32 (y : Nat)] w fun e w' => e = .returned (.bool (odd x y)) ∧ w' = w := by
  have hm : x &&& y < 2 ^ 32 := Nat.and_lt_two_pow _ (by omega)
  have c2 := size_any (x &&& y) (by omega) w
  have e2 := u32_and_nat x y hx hy
  have l1 : pop (x &&& y) ≤ 32 := popN_le 32 (x &&& y)
  unfold odd
  generalize pop (x &&& y) = P at *
  generalize x &&& y = X at *
  obtain ⟨q, hq⟩ : ∃ q, P % 2 = q := ⟨_, rfl⟩
  have qz : (P : Int).tmod 2 = (q : Int) := by
    rw [show (2 : Int) = ((2 : Nat) : Int) from rfl, ← Int.ofNat_tmod, hq]
  have hq2 : q < 2 := by omega
  rw [hq]
  clear hq
  go_enter Try.func28, Try.ntmps28
  go_wp2_with fail
  refine c2.mono ?_
  rintro e w' ⟨rfl, rfl⟩
  clear c2
  go_wp2
  go_ret
  exact ⟨ret_bool (by rw [Bool.eq_iff_iff, beq_iff_eq, beq_iff_eq]; omega), rfl⟩

/-- The mark by the first k checks. -/
def mkp (g : List Nat) (w k : Nat) : Nat := setOf (fun i => odd (g.getD i 0) w) k
theorem mkp_all (g : List Nat) (w : Nat) : mkp g w g.length = mk g w := rfl
theorem mkp_yes {g : List Nat} {w k : Nat} (h : odd (g.getD k 0) w = true) : mkp g w (k + 1) = mkp g w k + 2 ^ k := by
  show setOf _ k + (if odd (g.getD k 0) w then 2 ^ k else 0) = _
  rw [if_pos h]; rfl
theorem mkp_no {g : List Nat} {w k : Nat} (h : odd (g.getD k 0) w = false) : mkp g w (k + 1) = mkp g w k := by
  show setOf _ k + (if odd (g.getD k 0) w then 2 ^ k else 0) = _
  rw [if_neg (by rw [h]; decide)]; rfl
theorem mkp_lt (g : List Nat) (w k : Nat) : mkp g w k < 2 ^ k := setOf_lt _ _
theorem or_pow {a k : Nat} (h : a < 2 ^ k) : a ||| 2 ^ k = a + 2 ^ k := by
  have := Nat.two_pow_add_eq_or_of_lt h 1
  rw [Nat.or_comm]
  simp only [Nat.mul_one] at this
  omega

/-- quipuref.Mark. -/
theorem refMark_any (x : Um) (q : Nat) (hl : x.z.length ≤ 8) (hb : ∀ y ∈ x.z, y < 4294967296) (hq : q < 4294967296) (w : World) (hx : Us w x) :
    Calls Try.prog 21 #[x.v, .int .u32 (q : Nat)] w fun e w' => e = .returned (.int .u32 (mk x.z q : Nat)) ∧ w' = w := by
  rw [← mkp_all]
  obtain ⟨a, c, g⟩ := x
  obtain ⟨h1, h2, _, b, o, h4, h5⟩ := hx
  simp only at h1 h2 h4 h5 hb hl
  simp only [Um.v]
  have HC : Hid (∀ i, i < g.length → w.cell? ⟨b, o + i, none⟩ = some (.int .u32 (g.getD i 0 : Nat))) := h5
  have HB : Hid (∀ i, i < g.length → g.getD i 0 < 4294967296) := fun i hi => by rw [getD_get hi]; exact hb _ (List.getElem_mem hi)
  have HO : Hid (∀ y W, y < 4294967296 → Calls Try.prog 28 #[.int .u32 (y : Nat), .int .u32 (q : Nat)] W fun e w' => e = .returned (.bool (odd y q)) ∧ w' = W) := fun y W hy => refOdd_any y q hy hq W
  have YES : Hid (∀ k, odd (g.getD k 0) q = true → mkp g q (k + 1) = mkp g q k + 2 ^ k) := fun k h => mkp_yes h
  have NO : Hid (∀ k, odd (g.getD k 0) q = false → mkp g q (k + 1) = mkp g q k) := fun k h => mkp_no h
  have LT : Hid (∀ k, mkp g q k < 2 ^ k) := mkp_lt g q
  have Z0 : Hid (mkp g q 0 = 0) := rfl
  clear h5 hb
  generalize mkp g q = S at *
  generalize g.length = m at *
  go_enter Try.func21, Try.ntmps21
  go_wp2
  go_loopg [5, 10] m (fun gg s5 s10 wr => ∃ k : Nat, k ≤ m ∧ m - k ≤ gg ∧ s10 = .int .i64 k ∧ s5 = .int .u32 (S k : Nat) ∧ wr = w)
  case atStart => exact ⟨0, Nat.zero_le _, by omega, rfl, by rw [Z0.out]; rfl, rfl⟩
  case round =>
    obtain ⟨k, hk, hgg, rfl, rfl, rfl⟩ := hrel
    by_cases hlt : k < m
    · have hltz : (k : Int) < (m : Int) := by omega
      obtain rfl := h4 (by omega)
      have e1 := HC.out k hlt
      have b1 := HB.out k hlt
      have c1 := HO.out _ wr b1
      have l1 := LT.out k
      have yes := YES.out k
      have no := NO.out k
      have pw : (2 : Int) ^ k % 4294967296 = ((2 ^ k : Nat) : Int) := pow_in _ (by omega)
      have hp : 2 ^ k ≤ 2 ^ 8 := Nat.pow_le_pow_right (by omega) (by omega)
      clear HC HB HO YES NO LT Z0
      generalize g.getD k 0 = y at *
      cases ho : odd y q
      · have NX : Hid (S (k + 1) = S k) := no ho
        rw [ho] at c1
        clear yes no ho pw
        generalize S k = A at *
        go_wp2_with fail
        refine c1.mono ?_
        rintro e w' ⟨rfl, rfl⟩
        clear c1
        go_wp2
        go_roundg (m - (k + 1))
        case measure => omega
        case rel => exact ⟨k + 1, by omega, by omega, by go_num, by rw [NX.out], rfl⟩
      · have NX : Hid (S (k + 1) = S k + 2 ^ k) := yes ho
        rw [ho] at c1
        clear yes no ho
        generalize S k = A at *
        generalize 2 ^ k = T at *
        go_wp2_with fail
        refine c1.mono ?_
        rintro e w' ⟨rfl, rfl⟩
        clear c1
        go_wp2
        go_roundg (m - (k + 1))
        case measure => omega
        case rel => exact ⟨k + 1, by omega, by omega, by go_num, by rw [NX.out]; go_num, rfl⟩
    · obtain rfl : k = m := by omega
      have hltz : ¬ (k : Int) < (k : Int) := by omega
      clear HC HB HO YES NO LT Z0
      go_wp2
      go_ret
      exact ⟨rfl, rfl⟩

/-- What is told of checks and of a word of so many bits. -/
def we (n : Int) (g : List Nat) (q k : Nat) : Int := if re n g = 0 then (if q < 2 ^ k then 0 else 4) else re n g
theorem we_bad {n : Int} {g : List Nat} {q k : Nat} (h : re n g ≠ 0) : we n g q k = re n g := if_neg h
theorem we_good {n : Nat} (hn : n ≤ 12) {g : List Nat} (hl : g.length ≤ 8) (h : ∀ x ∈ g, x < 2 ^ n) (q k : Nat) : we n g q k = if q < 2 ^ k then 0 else 4 := if_pos (re_good hn hl h)

/-- leader.CheckWord. -/
theorem checkWord_any (n : Int) (x : Um) (hb : ∀ y ∈ x.z, y < 4294967296) (q : Nat) (hq : q < 4294967296) (w : World) (hx : Us w x) :
    Calls Try.prog 17 #[.int .i64 n, x.v, .int .u32 (q : Nat)] w fun e w' => e = .returned (.int .i64 (we n x.z q n.toNat)) ∧ Ext w w' := by
  have c1 := checkRows_any n x hb w hx
  by_cases h : re n x.z = 0
  · obtain ⟨m, rfl, hm, h2, h3⟩ := re_zero h
    have E : Hid (Ext w (w.alloc (.cells #[.int .u32 (q : Nat)] 23))) := (Ext.refl w).alloc _
    have c2 := checkUs_in m hm (some ⟨w.heap.size, 0, none⟩) [q] (by simp) (by simpa using hq) w.heap.size 0 1 (w.alloc (.cells #[.int .u32 (q : Nat)] 23)) (fun _ => rfl) (fun i hi => by
      simp only [List.length_singleton] at hi
      obtain rfl : i = 0 := by omega
      exact cell_one_new w _ 23 0 _ rfl)
    have ew : we m x.z q (m : Int).toNat = ce m [q] := by
      rw [we_good hm h2 h3, ce_nat hm]
      simp
    rw [h] at c1
    rw [ew]
    simp only [List.length_singleton] at c2
    clear h hb hx h2 h3 ew
    generalize ce m [q] = R at *
    obtain ⟨a, c, g⟩ := x
    simp only [Um.v] at *
    generalize g.length = l at *
    go_enter Try.func17, Try.ntmps17
    go_wp2_with fail
    refine c1.mono ?_
    rintro e w' ⟨rfl, rfl⟩
    clear c1
    go_wp2_with fail
    refine c2.mono ?_
    rintro e w' ⟨rfl, rfl⟩
    clear c2
    go_wp2
    go_ret
    exact ⟨rfl, E.out⟩
  · rw [we_bad h]
    have hz : (re n x.z != 0) = true := by rw [bne_iff_ne]; exact h
    clear h hb hx
    generalize re n x.z = R at *
    obtain ⟨a, c, g⟩ := x
    simp only [Um.v] at *
    generalize g.length = l at *
    go_enter Try.func17, Try.ntmps17
    go_wp2_with fail
    refine c1.mono ?_
    rintro e w' ⟨rfl, rfl⟩
    clear c1
    go_wp2
    go_ret
    exact ⟨rfl, Ext.refl _⟩

/-- quipulaw.checked. -/
theorem checked_any (n : Int) (x : Um) (hb : ∀ y ∈ x.z, y < 4294967296) (q : Nat) (hq : q < 4294967296) (k : Nat) (hk : re n x.z = 0 → k ≤ 12) (w : World) (hx : Us w x) (i : Int) (hi : re n x.z = 0 → i = (k : Int)) :
    Calls Try.prog 9 #[.int .i64 n, x.v, .int .u32 (q : Nat), .int .i64 i] w fun e w' => e = .returned (.int .i64 (we n x.z q k)) ∧ w' = w := by
  have c1 := refRows_any n x hb w hx
  by_cases h : re n x.z = 0
  · obtain rfl := hi h
    have hk' := hk h
    have ew : we n x.z q k = if q < 2 ^ k then 0 else 4 := if_pos h
    rw [h] at c1
    rw [ew]
    have pw : (2 : Int) ^ k % 4294967296 = ((2 ^ k : Nat) : Int) := pow_in _ (by omega)
    have hp : 2 ^ k ≤ 2 ^ 12 := Nat.pow_le_pow_right (by omega) (by omega)
    clear h hb hx hk hi ew
    generalize 2 ^ k = T at *
    obtain ⟨a, c, g⟩ := x
    simp only [Um.v] at *
    generalize g.length = l at *
    by_cases hlt : q < T
    · rw [if_pos hlt]
      have hz : ¬ (q : Int) ≥ (T : Int) := by omega
      go_enter Try.func9, Try.ntmps9
      go_wp2_with fail
      refine c1.mono ?_
      rintro e w' ⟨rfl, rfl⟩
      clear c1
      go_wp2
      go_ret
      exact ⟨rfl, rfl⟩
    · rw [if_neg hlt]
      have hz : (q : Int) ≥ (T : Int) := by omega
      go_enter Try.func9, Try.ntmps9
      go_wp2_with fail
      refine c1.mono ?_
      rintro e w' ⟨rfl, rfl⟩
      clear c1
      go_wp2
      go_ret
      exact ⟨rfl, rfl⟩
  · rw [we_bad h]
    have hz : (re n x.z == 0) = false := by rw [beq_eq_false_iff_ne]; exact h
    clear h hb hx hk hi
    generalize re n x.z = R at *
    obtain ⟨a, c, g⟩ := x
    simp only [Um.v] at *
    generalize g.length = l at *
    go_enter Try.func9, Try.ntmps9
    go_wp2_with fail
    refine c1.mono ?_
    rintro e w' ⟨rfl, rfl⟩
    clear c1
    go_wp2
    go_ret
    exact ⟨rfl, rfl⟩

end Go.Proofs.Ytabjliijojidmaa
