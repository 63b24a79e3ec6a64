/-
  cmp.Compare, cmp.Or, slices.Compare; alpha.compare: which of two plans comes first.
-/
import Derived.Test.YtakggfogoobdnaaLoud
import Derived.Test.YtakggfogoobdnaaAlp
import Derived.Test.YtakggfogoobdnaaCst
namespace Go.Proofs.Ytakggfogoobdnaa
open Go.RowKit

theorem isNaNi_any (x : Int) (w : World) : Calls Try.prog 56 #[.int .i64 x] w fun e w' => e = .returned (.bool false) ∧ w' = w := by
  go_enter Try.func56, Try.ntmps56
  go_wp2
  go_ret
  exact ⟨rfl, rfl⟩

set_option maxHeartbeats 1000000 in
theorem comparei_any (x y : Int) (w : World) : Calls Try.prog 53 #[.int .i64 x, .int .i64 y] w fun e w' => e = .returned (.int .i64 (cmpI x y)) ∧ w' = w := by
  have h1 := isNaNi_any x w
  have h2 := isNaNi_any y w
  rcases Int.lt_trichotomy x y with h | h | h
  · rw [cmpI_lt h]
    go_enter Try.func53, Try.ntmps53
    go_wp2_with (first | (refine h1.mono ?_; rintro e w1 ⟨rfl, rfl⟩) | (refine h2.mono ?_; rintro e w1 ⟨rfl, rfl⟩))
    go_ret
    exact ⟨rfl, rfl⟩
  · rw [cmpI_eq h]
    subst h
    go_enter Try.func53, Try.ntmps53
    go_wp2_with (first | (refine h1.mono ?_; rintro e w1 ⟨rfl, rfl⟩) | (refine h2.mono ?_; rintro e w1 ⟨rfl, rfl⟩))
    go_ret
    exact ⟨rfl, rfl⟩
  · rw [cmpI_gt h]
    have h' : ¬ x < y := by omega
    go_enter Try.func53, Try.ntmps53
    go_wp2_with (first | (refine h1.mono ?_; rintro e w1 ⟨rfl, rfl⟩) | (refine h2.mono ?_; rintro e w1 ⟨rfl, rfl⟩))
    go_ret
    exact ⟨rfl, rfl⟩

/-- The first of two numbers that is not 0. -/
def orI (x y : Int) : Int := if x = 0 then y else x

set_option maxHeartbeats 1000000 in
theorem or_any (x y : Int) (B : Nat) (w : World) (h1 : w.cell? ⟨B, 0, none⟩ = some (.int .i64 x)) (h2 : w.cell? ⟨B, 1, none⟩ = some (.int .i64 y)) :
    Calls Try.prog 47 #[.slice (some ⟨B, 0, none⟩) 2 2] w fun e w' => e = .returned (.int .i64 (orI x y)) ∧ w' = w := by
  have HR0 : Hid (¬ x = 0 → orI x y = x) := fun h => by simp [orI, h]
  have HR1 : Hid (x = 0 → ¬ y = 0 → orI x y = y) := fun h _ => by simp [orI, h]
  have HR2 : Hid (x = 0 → y = 0 → orI x y = 0) := fun h h' => by simp [orI, h, h']
  generalize orI x y = r at *
  go_enter Try.func47, Try.ntmps47
  go_wp2
  go_loopg [5, 8] 2 (fun gg _ s8 wr => wr = w ∧ ∃ k : Nat, k ≤ 2 ∧ 2 - k ≤ gg ∧ s8 = .int .i64 k ∧ Aside ((1 ≤ k → x = 0) ∧ (2 ≤ k → y = 0)))
  case atStart => exact ⟨rfl, 0, by omega, by omega, rfl, by omega, by omega⟩
  case round =>
    obtain ⟨rfl, k, hk, hgg, rfl, A⟩ := hrel
    obtain rfl | rfl | rfl : k = 0 ∨ k = 1 ∨ k = 2 := by omega
    · by_cases hx : x = 0
      · have HX : Hid (x = 0) := hx
        have hb : (x != 0) = false := by simp [hx]
        clear hx A
        go_wp2
        go_roundg 1
        case measure => omega
        case rel => exact ⟨rfl, 1, by omega, by omega, by go_num, fun _ => HX.out, by omega⟩
      · have hb : (x != 0) = true := by simp [hx]
        have hr := HR0.out hx
        clear A hx HR0 HR1 HR2
        go_wp2
        go_ret
        exact ⟨ret_int hr.symm, rfl⟩
    · have HX : Hid (x = 0) := A.out.1 (by omega)
      by_cases hy : y = 0
      · have HY : Hid (y = 0) := hy
        have hb : (y != 0) = false := by simp [hy]
        clear hy A
        go_wp2
        go_roundg 0
        case measure => omega
        case rel => exact ⟨rfl, 2, by omega, by omega, by go_num, fun _ => HX.out, fun _ => HY.out⟩
      · have hb : (y != 0) = true := by simp [hy]
        have hr := HR1.out HX.out hy
        clear A hy HR0 HR1 HR2
        go_wp2
        go_ret
        exact ⟨ret_int hr.symm, rfl⟩
    · have hr := HR2.out (A.out.1 (by omega)) (A.out.2 (by omega))
      clear A HR0 HR1 HR2
      go_wp2
      go_ret
      exact ⟨ret_int hr.symm, rfl⟩

/-- Which of two lists comes first. -/
def cmpL (a b : List Nat) : Int := if ll a b then -1 else if ll b a then 1 else 0
theorem cmpL_cons (x y : Nat) (a b : List Nat) : cmpL (x :: a) (y :: b) = if x < y then -1 else if y < x then 1 else cmpL a b := by
  unfold cmpL
  rw [ll_cons, ll_cons]
  by_cases h1 : x < y
  · simp [h1]
  · by_cases h2 : y < x
    · have e : (x == y) = false := by simp; omega
      simp [h1, h2, e]
    · have e : x = y := by omega
      subst e
      simp
theorem cmpL_nil : cmpL [] [] = 0 := rfl
theorem cmpL_neg (a b : List Nat) : cmpL a b < 0 ↔ ll a b = true := by
  unfold cmpL
  split
  · simp_all
  · split <;> simp_all

set_option maxHeartbeats 1000000 in
theorem compareL_any (x y : Nm) (a b : List Nat) (w : World) (hx : Nums w x) (hy : Nums w y) (hxa : x.z = lz a) (hyb : y.z = lz b) (hl : a.length = b.length) :
    Calls Try.prog 48 #[x.v, y.v] w fun e w' => e = .returned (.int .i64 (cmpL a b)) ∧ w' = w := by
  obtain ⟨xa, xc, xz⟩ := x
  obtain ⟨ya, yc, yz⟩ := y
  simp only at hxa hyb
  subst hxa
  subst hyb
  obtain ⟨p1, p2, _, pb, po, p4, p5⟩ := hx
  obtain ⟨q1, q2, _, qb, qo, q4, q5⟩ := hy
  simp only [Nm.v] at *
  have ex : (lz a).length = a.length := by simp [lz]
  have ey : (lz b).length = a.length := by simp [lz, hl]
  rw [ex] at p1 p4 p5 ⊢
  rw [ey] at q1 q4 q5 ⊢
  unfold maxLen at p2 q2
  obtain ⟨n, hn⟩ : ∃ n, a.length = n := ⟨_, rfl⟩
  rw [hn] at p1 p4 p5 q1 q4 q5 ⊢
  have P5 : Hid (∀ i, i < n → w.cell? ⟨pb, po + i, none⟩ = some (.int .i64 ((lz a).getD i 0))) := p5
  have Q5 : Hid (∀ i, i < n → w.cell? ⟨qb, qo + i, none⟩ = some (.int .i64 ((lz b).getD i 0))) := q5
  have HA : Hid (a.length = n) := hn
  have HB : Hid (b.length = n) := by show _ = _; rw [← hl]; exact hn
  have CI : Hid (∀ (x y : Int), Calls Try.prog 53 #[.int .i64 x, .int .i64 y] w fun e w' => e = .returned (.int .i64 (cmpI x y)) ∧ w' = w) := fun x y => comparei_any x y w
  obtain ⟨r, hr⟩ : ∃ r, cmpL a b = r := ⟨_, rfl⟩
  have HR : Hid (cmpL (a.drop 0) (b.drop 0) = r) := hr
  rw [hr]
  clear ex ey p5 q5 hn hl hr
  go_enter Try.func48, Try.ntmps48
  go_wp2
  go_loopg [5, 6, 7, 8, 11] n (fun gg _ _ _ _ s wr => wr = w ∧ ∃ k : Nat, k ≤ n ∧ n - k ≤ gg ∧ s = .int .i64 k ∧ Aside (cmpL (a.drop k) (b.drop k) = r))
  case atStart => exact ⟨rfl, 0, by omega, by omega, rfl, HR.out⟩
  case round =>
    obtain ⟨rfl, k, hk, hgg, rfl, A⟩ := hrel
    by_cases hlt : k < n
    · have hltz : (k : Int) < (n : Int) := by omega
      obtain rfl := p4 (by omega)
      obtain rfl := q4 (by omega)
      have e1 := P5.out k hlt
      have e2 := Q5.out k hlt
      rw [lz_z] at e1 e2
      have ha : k < a.length := by rw [HA.out]; exact hlt
      have hb : k < b.length := by rw [HB.out]; exact hlt
      have g1 : a.getD k 0 = a[k] := by simp [List.getD_eq_getElem?_getD, ha]
      have g2 : b.getD k 0 = b[k] := by simp [List.getD_eq_getElem?_getD, hb]
      have hs := A.out
      rw [List.drop_eq_getElem_cons ha, List.drop_eq_getElem_cons hb, ← g1, ← g2, cmpL_cons] at hs
      clear A g1 g2 ha hb
      generalize a.getD k 0 = u at *
      generalize b.getD k 0 = v at *
      have hc := CI.out u v
      rcases Nat.lt_trichotomy u v with h | h | h
      · rw [cmpI_lt (by omega)] at hc
        rw [if_pos h] at hs
        have HS : Hid (-1 = r) := hs
        clear hs h
        go_wp2_with fail
        refine hc.mono ?_
        rintro e w1 ⟨rfl, rfl⟩
        go_wp2
        go_ret
        exact ⟨ret_int HS.out, rfl⟩
      · subst h
        rw [cmpI_eq rfl] at hc
        rw [if_neg (by omega), if_neg (by omega)] at hs
        have HS : Hid (cmpL (a.drop (k + 1)) (b.drop (k + 1)) = r) := hs
        clear hs
        go_wp2_with fail
        refine hc.mono ?_
        rintro e w1 ⟨rfl, rfl⟩
        go_wp2
        go_roundg (n - (k + 1))
        case measure => omega
        case rel => exact ⟨rfl, k + 1, by omega, by omega, by go_num, HS.out⟩
      · rw [cmpI_gt (by omega)] at hc
        rw [if_neg (by omega), if_pos h] at hs
        have HS : Hid (1 = r) := hs
        clear hs h
        go_wp2_with fail
        refine hc.mono ?_
        rintro e w1 ⟨rfl, rfl⟩
        go_wp2
        go_ret
        exact ⟨ret_int HS.out, rfl⟩
    · have hkn : k = n := by omega
      have hs := A.out
      rw [List.drop_eq_nil_of_le (by rw [HA.out]; omega), List.drop_eq_nil_of_le (by rw [HB.out]; omega), cmpL_nil] at hs
      have HS : Hid (0 = r) := hs
      clear A hs
      go_wp2
      go_ret
      exact ⟨ret_int HS.out, rfl⟩

end Go.Proofs.Ytakggfogoobdnaa
