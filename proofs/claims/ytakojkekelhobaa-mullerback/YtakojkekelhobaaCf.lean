/-
  cmp.Compare of numbers and of words, cmp.Or; which of two products comes first.
-/
import Derived.Test.YtakojkekelhobaaSw
import Derived.Test.YtakojkekelhobaaLay
import Derived.BigQuiet
namespace Go.Proofs.Ytakojkekelhobaa
open Go.RowKit Go.Sort
set_option linter.unusedVariables false

/-- What comparing two numbers tells. -/
def cmpI (x y : Int) : Int := if x < y then -1 else if y < x then 1 else 0
theorem cmpI_lt {x y : Int} (h : x < y) : cmpI x y = -1 := if_pos h
theorem cmpI_gt {x y : Int} (h : y < x) : cmpI x y = 1 := by
  unfold cmpI
  rw [if_neg (by omega), if_pos h]
theorem cmpI_eq {x y : Int} (h : x = y) : cmpI x y = 0 := by
  unfold cmpI
  rw [if_neg (by omega), if_neg (by omega)]

theorem isNaNi_any (x : Int) (w : World) : Calls Try.prog 37 #[.int .i64 x] w fun e w' => e = .returned (.bool false) ∧ w' = w := by
  go_enter Try.func37, Try.ntmps37
  go_wp2
  go_ret
  exact ⟨rfl, rfl⟩

set_option maxHeartbeats 1000000 in
theorem comparei_any (x y : Int) (w : World) : Calls Try.prog 27 #[.int .i64 x, .int .i64 y] w fun e w' => e = .returned (.int .i64 (cmpI x y)) ∧ w' = w := by
  have h1 := isNaNi_any x w
  have h2 := isNaNi_any y w
  rcases Int.lt_trichotomy x y with h | h | h
  · rw [cmpI_lt h]
    go_enter Try.func27, Try.ntmps27
    go_wp2_with (first | (refine h1.mono ?_; rintro e w1 ⟨rfl, rfl⟩) | (refine h2.mono ?_; rintro e w1 ⟨rfl, rfl⟩))
    go_ret
    exact ⟨rfl, rfl⟩
  · rw [cmpI_eq h]
    subst h
    go_enter Try.func27, Try.ntmps27
    go_wp2_with (first | (refine h1.mono ?_; rintro e w1 ⟨rfl, rfl⟩) | (refine h2.mono ?_; rintro e w1 ⟨rfl, rfl⟩))
    go_ret
    exact ⟨rfl, rfl⟩
  · rw [cmpI_gt h]
    have h' : ¬ x < y := by omega
    go_enter Try.func27, Try.ntmps27
    go_wp2_with (first | (refine h1.mono ?_; rintro e w1 ⟨rfl, rfl⟩) | (refine h2.mono ?_; rintro e w1 ⟨rfl, rfl⟩))
    go_ret
    exact ⟨rfl, rfl⟩

/-- The first of two numbers that is not 0. -/
def orI (x y : Int) : Int := if x = 0 then y else x

set_option maxHeartbeats 1000000 in
theorem or_any (x y : Int) (B : Nat) (w : World) (h1 : w.cell? ⟨B, 0, none⟩ = some (.int .i64 x)) (h2 : w.cell? ⟨B, 1, none⟩ = some (.int .i64 y)) :
    Calls Try.prog 26 #[.slice (some ⟨B, 0, none⟩) 2 2] w fun e w' => e = .returned (.int .i64 (orI x y)) ∧ w' = w := by
  have HR0 : Hid (¬ x = 0 → orI x y = x) := fun h => by simp [orI, h]
  have HR1 : Hid (x = 0 → ¬ y = 0 → orI x y = y) := fun h _ => by simp [orI, h]
  have HR2 : Hid (x = 0 → y = 0 → orI x y = 0) := fun h h' => by simp [orI, h, h']
  generalize orI x y = r at *
  go_enter Try.func26, Try.ntmps26
  go_wp2
  go_loopg [5, 8] 2 (fun gg _ s8 wr => wr = w ∧ ∃ k : Nat, k ≤ 2 ∧ 2 - k ≤ gg ∧ s8 = .int .i64 k ∧ Aside ((1 ≤ k → x = 0) ∧ (2 ≤ k → y = 0)))
  case atStart => exact ⟨rfl, 0, by omega, by omega, rfl, by omega, by omega⟩
  case round =>
    obtain ⟨rfl, k, hk, hgg, rfl, A⟩ := hrel
    obtain rfl | rfl | rfl : k = 0 ∨ k = 1 ∨ k = 2 := by omega
    · by_cases hx : x = 0
      · have HX : Hid (x = 0) := hx
        have hb : (x != 0) = false := by simp [hx]
        clear hx A
        go_wp2
        go_roundg 1
        case measure => omega
        case rel => exact ⟨rfl, 1, by omega, by omega, by go_num, fun _ => HX.out, by omega⟩
      · have hb : (x != 0) = true := by simp [hx]
        have hr := HR0.out hx
        clear A hx HR0 HR1 HR2
        go_wp2
        go_ret
        exact ⟨ret_int hr.symm, rfl⟩
    · have HX : Hid (x = 0) := A.out.1 (by omega)
      by_cases hy : y = 0
      · have HY : Hid (y = 0) := hy
        have hb : (y != 0) = false := by simp [hy]
        clear hy A
        go_wp2
        go_roundg 0
        case measure => omega
        case rel => exact ⟨rfl, 2, by omega, by omega, by go_num, fun _ => HX.out, fun _ => HY.out⟩
      · have hb : (y != 0) = true := by simp [hy]
        have hr := HR1.out HX.out hy
        clear A hy HR0 HR1 HR2
        go_wp2
        go_ret
        exact ⟨ret_int hr.symm, rfl⟩
    · have hr := HR2.out (A.out.1 (by omega)) (A.out.2 (by omega))
      clear A HR0 HR1 HR2
      go_wp2
      go_ret
      exact ⟨ret_int hr.symm, rfl⟩

theorem isNaNu_any (x : Int) (w : World) : Calls Try.prog 38 #[.int .u32 x] w fun e w' => e = .returned (.bool false) ∧ w' = w := by
  go_enter Try.func38, Try.ntmps38
  go_wp2
  go_ret
  exact ⟨rfl, rfl⟩

set_option maxHeartbeats 1000000 in
theorem compareu_any (x y : Int) (w : World) : Calls Try.prog 28 #[.int .u32 x, .int .u32 y] w fun e w' => e = .returned (.int .i64 (cmpI x y)) ∧ w' = w := by
  have h1 := isNaNu_any x w
  have h2 := isNaNu_any y w
  rcases Int.lt_trichotomy x y with h | h | h
  · rw [cmpI_lt h]
    go_enter Try.func28, Try.ntmps28
    go_wp2_with (first | (refine h1.mono ?_; rintro e w1 ⟨rfl, rfl⟩) | (refine h2.mono ?_; rintro e w1 ⟨rfl, rfl⟩))
    go_ret
    exact ⟨rfl, rfl⟩
  · rw [cmpI_eq h]
    subst h
    go_enter Try.func28, Try.ntmps28
    go_wp2_with (first | (refine h1.mono ?_; rintro e w1 ⟨rfl, rfl⟩) | (refine h2.mono ?_; rintro e w1 ⟨rfl, rfl⟩))
    go_ret
    exact ⟨rfl, rfl⟩
  · rw [cmpI_gt h]
    have h' : ¬ x < y := by omega
    go_enter Try.func28, Try.ntmps28
    go_wp2_with (first | (refine h1.mono ?_; rintro e w1 ⟨rfl, rfl⟩) | (refine h2.mono ?_; rintro e w1 ⟨rfl, rfl⟩))
    go_ret
    exact ⟨rfl, rfl⟩

/-- Which of two products comes first. -/
def cf (a b : Fin 16) : Int := orI (cmpI (pop a.val : Nat) (pop b.val : Nat)) (cmpI (a.val : Int) (b.val : Int))

theorem order_any (a b : Fin 16) (W : World) : Calls Try.prog 25 #[.int .u32 (a.val : Int), .int .u32 (b.val : Int)] W fun e w' => e = .returned (.int .i64 (cf a b)) ∧ ∃ q os, w' = grow (W.drewN q) os := by
  have ha := a.isLt
  have hb := b.isLt
  have D : ∀ (x : Nat) W, x < 16 → Calls Try.prog 23 #[.int .u32 x] W fun e w' => e = .returned (.int .i64 (pop x : Nat)) ∧ ∃ d, w' = W.drewN d := fun x W h => degreeOf_any x (by omega) W
  have DA : Hid (∀ W, Calls Try.prog 23 #[.int .u32 (a.val : Int)] W fun e w' => e = .returned (.int .i64 (pop a.val : Nat)) ∧ ∃ d, w' = W.drewN d) := fun W => D a.val W ha
  have DB : Hid (∀ W, Calls Try.prog 23 #[.int .u32 (b.val : Int)] W fun e w' => e = .returned (.int .i64 (pop b.val : Nat)) ∧ ∃ d, w' = W.drewN d) := fun W => D b.val W hb
  have CI : Hid (∀ x y W, Calls Try.prog 27 #[.int .i64 x, .int .i64 y] W fun e w' => e = .returned (.int .i64 (cmpI x y)) ∧ w' = W) := comparei_any
  have CU : Hid (∀ x y W, Calls Try.prog 28 #[.int .u32 x, .int .u32 y] W fun e w' => e = .returned (.int .i64 (cmpI x y)) ∧ w' = W) := compareu_any
  have RES : cf a b = orI (cmpI (pop a.val : Nat) (pop b.val : Nat)) (cmpI (a.val : Int) (b.val : Int)) := rfl
  rw [RES]
  have OR : Hid (∀ x y (W : World), Calls Try.prog 26 #[.slice (some ⟨W.heap.size, 0, none⟩) 2 2] (W.alloc (.cells #[.int .i64 x, .int .i64 y] 3)) fun e w' => e = .returned (.int .i64 (orI x y)) ∧ w' = W.alloc (.cells #[.int .i64 x, .int .i64 y] 3)) := fun x y W => by
    have R : (W.alloc (.cells #[.int .i64 x, .int .i64 y] 3)).heap[W.heap.size]? = some (.cells #[.int .i64 x, .int .i64 y] 3 (0, 0)) := heap_alloc_new _ _
    exact or_any x y W.heap.size _ (by rw [cell_of_row _ _ _ _ _ _ R]; rfl) (by rw [cell_of_row _ _ _ _ _ _ R]; rfl)
  clear D RES
  obtain ⟨x, hx⟩ := a
  obtain ⟨y, hy⟩ := b
  simp only at *
  generalize pop x = p at *
  generalize pop y = q at *
  have cI := CI.out p q
  have cU := CU.out x y
  generalize cmpI (p : Int) (q : Int) = r at *
  generalize cmpI (x : Int) (y : Int) = s at *
  have cO := OR.out r s
  generalize orI r s = t at *
  have HI : Hid (∀ W, Calls Try.prog 27 #[.int .i64 (p : Int), .int .i64 (q : Int)] W fun e w' => e = .returned (.int .i64 r) ∧ w' = W) := cI
  have HU : Hid (∀ W, Calls Try.prog 28 #[.int .u32 (x : Int), .int .u32 (y : Int)] W fun e w' => e = .returned (.int .i64 s) ∧ w' = W) := cU
  have HO : Hid (∀ (W : World), Calls Try.prog 26 #[.slice (some ⟨W.heap.size, 0, none⟩) 2 2] (W.alloc (.cells #[.int .i64 r, .int .i64 s] 3)) fun e w' => e = .returned (.int .i64 t) ∧ w' = W.alloc (.cells #[.int .i64 r, .int .i64 s] 3)) := cO
  clear cI cU cO CI CU OR
  go_enter Try.func25, Try.ntmps25
  go_wp2_with (first | (go_at_call 23; first | (refine (DA.out _).mono ?_; rintro e w2 ⟨rfl, d1, rfl⟩; clear DA) | (refine (DB.out _).mono ?_; rintro e w3 ⟨rfl, d2, rfl⟩; clear DB)) | (go_at_call 27; refine (HI.out _).mono ?_; rintro e w4 ⟨rfl, rfl⟩; clear HI) | (go_at_call 28; refine (HU.out _).mono ?_; rintro e w5 ⟨rfl, rfl⟩; clear HU) | (go_at_call 26; refine (HO.out _).mono ?_; rintro e w6 ⟨rfl, rfl⟩; clear HO))
  go_ret
  exact ⟨rfl, _, _, by rw [alloc_eq_grow]⟩

end Go.Proofs.Ytakojkekelhobaa
