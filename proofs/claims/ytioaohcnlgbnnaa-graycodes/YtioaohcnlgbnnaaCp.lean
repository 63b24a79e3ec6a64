/-
  gray.Code, gray.Place.
-/
import Derived.Test.YtioaohcnlgbnnaaGr
import Derived.Test.YtioaohcnlgbnnaaCw
import Derived.Laws.BitsAllLaws
namespace Go.Proofs.Ytioaohcnlgbnnaa
open Go.RowKit
set_option linter.unusedVariables false

theorem check_one (n : Int) (i : Nat) (hi : i < 4294967296) (w : World) :
    Calls Try.prog 17 #[.int .i64 n, .slice (some ⟨w.heap.size, 0, none⟩) 1 1] (w.alloc (.cells #[.int .u32 i] 22)) fun e w' => e = .returned (.int .i64 (ce n [i])) ∧ w' = w.alloc (.cells #[.int .u32 i] 22) :=
  checkWords_any n [i] (by simp) (fun x hx => by rw [List.mem_singleton.1 hx]; exact hi) w.heap.size 1 _ (heap_alloc_new _ _)

/-- gray.Code. -/
theorem code_any (n : Int) (i : Nat) (hi : i < 4294967296) (w : World) :
    Calls Try.prog 8 #[.int .i64 n, .int .u32 i] w fun e w' => e = .returned (.tuple #[.int .u32 (if ce n [i] = 0 then gr i else 0 : Nat), .int .i64 (ce n [i])]) ∧ Ext w w' := by
  have c1 := check_one n i hi w
  have E1 : Hid (Ext w (w.alloc (.cells #[.int .u32 i] 22))) := (Ext.refl w).alloc _
  have hx := u32_xor_nat i (i >>> 1) hi (by rw [Nat.shiftRight_eq_div_pow]; omega)
  rw [show bits .xor .u32 (i : Int) ((i >>> 1 : Nat) : Int) = bits .xor .u32 (i : Int) ((i : Int) / 2) by rw [Nat.shiftRight_eq_div_pow]; rfl] at hx
  have hg : gr i = i ^^^ i >>> 1 := rfl
  rw [← hg] at hx
  clear hg
  generalize hc : ce n [i] = c at *
  by_cases h : c = 0
  · subst h
    rw [if_pos rfl]
    generalize gr i = G at *
    clear hc
    go_enter Try.func8, Try.ntmps8
    go_wp2_with fail
    refine c1.mono ?_
    rintro e w' ⟨rfl, rfl⟩
    clear c1
    go_wp2
    go_ret2
    exact ⟨rfl, E1.out⟩
  · rw [if_neg h]
    clear hx hc
    go_enter Try.func8, Try.ntmps8
    go_wp2_with fail
    refine c1.mono ?_
    rintro e w' ⟨rfl, rfl⟩
    clear c1
    go_wp2
    go_ret2
    exact ⟨rfl, E1.out⟩

/-- The place of a word. -/
def pl (q : Nat) : Nat := ac q 32
theorem pl_gr {q : Nat} (hq : q < 4294967296) : gr (pl q) = q := gr_place (by rw [Nat.shiftRight_eq_div_pow]; exact Nat.div_eq_of_lt (by omega))
theorem pl_eq {q k : Nat} (hq : q < 4294967296) (h : q >>> k = 0) : ac q k = pl q := gr_inj (by rw [gr_place h, pl_gr hq])
theorem pl_lt {q n : Nat} (h : q < 2 ^ n) : pl q < 2 ^ n := ac_lt h 32
theorem pl_of {i : Nat} (hi : i < 4294967296) : pl (gr i) = i := gr_inj (pl_gr (gr_lt (n := 32) (by omega)))

set_option maxHeartbeats 1000000 in
/-- gray.Place. -/
theorem place_any (n : Int) (q : Nat) (hq : q < 4294967296) (w : World) :
    Calls Try.prog 11 #[.int .i64 n, .int .u32 q] w fun e w' => e = .returned (.tuple #[.int .u32 (if ce n [q] = 0 then pl q else 0 : Nat), .int .i64 (ce n [q])]) ∧ Ext w w' := by
  have c1 := check_one n q hq w
  have E1 : Hid (Ext w (w.alloc (.cells #[.int .u32 q] 22))) := (Ext.refl w).alloc _
  obtain ⟨S, hS⟩ : ∃ S : Nat → Nat, ∀ k, S k = q >>> k := ⟨_, fun _ => rfl⟩
  obtain ⟨A, hA⟩ : ∃ A : Nat → Nat, ∀ k, A k = ac q k := ⟨_, fun _ => rfl⟩
  have S0 : Hid (S 0 = q) := hS 0
  have A0 : Hid (A 0 = 0) := hA 0
  have SN : Hid (∀ k, S (k + 1) = S k / 2) := fun k => by rw [hS, hS, Nat.shiftRight_add, Nat.shiftRight_eq_div_pow (q >>> k) 1]
  have SL : Hid (∀ k, S k < 4294967296) := fun k => by rw [hS, Nat.shiftRight_eq_div_pow]; exact Nat.lt_of_le_of_lt (Nat.div_le_self _ _) hq
  have AL : Hid (∀ k, A k < 4294967296) := fun k => by
    rw [hA]
    have := ac_lt (w := q) (n := 32) (by omega) k
    omega
  have AX : Hid (∀ k, bits .xor .u32 (A k : Int) (S k : Int) = (A (k + 1) : Nat)) := fun k => by
    rw [u32_xor_nat _ _ (AL.out k) (SL.out k), hA (k + 1), hA, hS]
    rfl
  have FIN : Hid (∀ k, S k = 0 → A k = pl q) := fun k h => by rw [hS] at h; rw [hA, pl_eq hq h]
  clear hS hA
  generalize pl q = P at *
  generalize hc : ce n [q] = c at *
  by_cases h : c = 0
  · subst h
    rw [if_pos rfl]
    clear hc
    generalize hW : w.alloc (.cells #[.int .u32 q] 22) = W at *
    go_enter Try.func11, Try.ntmps11
    go_wp2_with fail
    refine c1.mono ?_
    rintro e w' ⟨rfl, rfl⟩
    clear c1 hW
    go_wp2
    go_loopg [1, 7] q (fun gg s1 s7 wr => ∃ k : Nat, s1 = .int .u32 (S k : Nat) ∧ s7 = .int .u32 (A k : Nat) ∧ S k ≤ gg ∧ wr = w')
    case atStart => exact ⟨0, by rw [S0.out], by rw [A0.out]; rfl, by rw [S0.out]; omega, rfl⟩
    case round =>
      obtain ⟨k, rfl, rfl, hgg, rfl⟩ := hrel
      have ax := AX.out k
      have fin := FIN.out k
      have sn := SN.out k
      have NX : Hid (A (k + 1) = A (k + 1) ∧ S (k + 1) = S k / 2) := ⟨rfl, sn⟩
      clear S0 A0 sn
      generalize hA1 : A (k + 1) = A' at *
      generalize hS1 : S (k + 1) = S' at *
      by_cases hz : S k = 0
      · have e := fin hz
        rw [hz] at *
        clear fin
        go_wp2
        go_ret2
        exact ⟨rfl, E1.out⟩
      · have hz' : (S k : Int) > 0 := by omega
        clear fin
        generalize S k = s at *
        generalize A k = a at *
        go_wp2
        go_roundg (s / 2)
        case measure => omega
        case rel => exact ⟨k + 1, by rw [hS1, NX.out.2]; go_num, by rw [hA1], by rw [hS1, NX.out.2]; omega, rfl⟩
  · rw [if_neg h]
    clear AX FIN S0 A0 SN SL AL hc
    go_enter Try.func11, Try.ntmps11
    go_wp2_with fail
    refine c1.mono ?_
    rintro e w' ⟨rfl, rfl⟩
    clear c1
    go_wp2
    go_ret2
    exact ⟨rfl, E1.out⟩

theorem ref_one (n : Int) (i : Nat) (hi : i < 4294967296) (w : World) :
    Calls Try.prog 9 #[.int .i64 n, .slice (some ⟨w.heap.size, 0, none⟩) 1 1] (w.alloc (.cells #[.int .u32 i] 22)) fun e w' => e = .returned (.int .i64 (ce n [i])) ∧ w' = w.alloc (.cells #[.int .u32 i] 22) :=
  refBits_any n [i] (by simp) (fun x hx => by rw [List.mem_singleton.1 hx]; exact hi) w.heap.size 1 _ (heap_alloc_new _ _)
theorem ce_bad {n : Int} {g : List Nat} (h : ce n g ≠ 0) : ce n g = 1 ∨ ce n g = 4 := by
  unfold ce at *
  by_cases c : 0 ≤ n ∧ n ≤ 12
  · rw [if_pos c] at *
    by_cases d : ∀ x ∈ g, x < 2 ^ n.toNat
    · rw [if_pos d] at h; exact absurd rfl h
    · rw [if_neg d]; exact .inr rfl
  · rw [if_neg c]; exact .inl rfl

/-- quipukeep.below of one word in new memory, whatever the number. -/
theorem below_ce (n : Int) (q : Nat) (hq : q < 4294967296) (w : World) :
    Calls Try.prog 15 #[.int .i64 n, .slice (some ⟨w.heap.size, 0, none⟩) 1 1] (w.alloc (.cells #[.int .u32 q] 22)) fun e w' => e = .returned (.bool (decide (ce n [q] = 0))) ∧ w' = w.alloc (.cells #[.int .u32 q] 22) := by
  have c1 := ref_one n q hq w
  have hc : ce n [q] = 0 ∨ ce n [q] = 1 ∨ ce n [q] = 4 := by
    by_cases h : ce n [q] = 0
    · exact .inl h
    · exact .inr (ce_bad h)
  generalize ce n [q] = c at *
  rcases hc with rfl | rfl | rfl
  all_goals
    go_enter Try.func15, Try.ntmps15
    go_wp2_with fail
    refine c1.mono ?_
    rintro e w' ⟨rfl, rfl⟩
    clear c1
    go_wp2
    go_ret
    exact ⟨rfl, rfl⟩

end Go.Proofs.Ytioaohcnlgbnnaa
