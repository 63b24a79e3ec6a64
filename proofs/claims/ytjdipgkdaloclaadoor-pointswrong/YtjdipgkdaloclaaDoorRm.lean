/-
  quipuref.Mul: the product power by power.
-/
import Derived.Test.YtjdipgkdaloclaaDoorGf
import Derived.Test.YtjdipgkdaloclaaDoorBt
namespace Go.Proofs.YtjdipgkdaloclaaDoor
open Go.RowKit

/-- What n pairs of bits make. -/
def pp (a b : Nat) : Nat → Nat
  | 0 => 0
  | n + 1 => if a.testBit (n / 4) && b.testBit (n % 4) then pp a b n ^^^ 2 ^ (n / 4 + n % 4) else pp a b n
set_option maxRecDepth 100000 in
theorem pp_lt0 : ∀ (a b : Fin 16) (n : Fin 17), pp a b n < 128 := by decide +kernel
theorem pp_lt {a b n : Nat} (ha : a < 16) (hb : b < 16) (hn : n < 17) : pp a b n < 128 := pp_lt0 ⟨a, ha⟩ ⟨b, hb⟩ ⟨n, hn⟩
/-- What is left of p when k of the greatest powers are taken away. -/
def rd (p : Nat) : Nat → Nat
  | 0 => p
  | k + 1 => if (rd p k).testBit (6 - k) then rd p k ^^^ 19 * 2 ^ (2 - k) else rd p k
set_option maxRecDepth 100000 in
theorem rd_lt0 : ∀ (p : Fin 128) (n : Fin 4), rd p n < 128 := by decide +kernel
theorem rd_lt {p n : Nat} (hp : p < 128) (hn : n < 4) : rd p n < 128 := rd_lt0 ⟨p, hp⟩ ⟨n, hn⟩
set_option maxRecDepth 100000 in
theorem rd_pp0 : ∀ a b : Fin 16, rd (pp a b 16) 3 = gm a b := by decide +kernel
theorem rd_pp {a b : Nat} (ha : a < 16) (hb : b < 16) : rd (pp a b 16) 3 = gm a b := rd_pp0 ⟨a, ha⟩ ⟨b, hb⟩

theorem refMul_any (a b : Nat) (ha : a < 16) (hb : b < 16) (w : World) : Calls Tryd.prog 30 #[.int .i64 a, .int .i64 b] w fun e w' => e = .returned (.int .i64 (gm a b : Nat)) ∧ w' = w := by
  have fin : Hid (rd (pp a b 16) 3 = gm a b) := rd_pp ha hb
  have PL : Hid (∀ n, n < 17 → pp a b n < 128) := fun n hn => pp_lt ha hb hn
  have BA : Hid (∀ (i : Nat) W, i < 32 → Calls Tryd.prog 19 #[.int .u32 a, .int .i64 i] W fun e w' => e = .returned (.bool (a.testBit i)) ∧ w' = W) := fun i W hi => bit_any a i (by omega) hi W
  have BB : Hid (∀ (i : Nat) W, i < 32 → Calls Tryd.prog 19 #[.int .u32 b, .int .i64 i] W fun e w' => e = .returned (.bool (b.testBit i)) ∧ w' = W) := fun i W hi => bit_any b i (by omega) hi W
  have gl := gm_lt ha hb
  generalize gm a b = G at *
  go_enter Tryd.func30, Tryd.ntmps30
  go_wp2
  go_loopg [5, 6] 4 (fun gg s5 s6 wr => ∃ i : Nat, i ≤ 4 ∧ 4 - i ≤ gg ∧ s5 = .int .u32 (pp a b (4 * i) : Nat) ∧ s6 = .int .i64 i ∧ wr = w)
  case atStart => exact ⟨0, Nat.zero_le _, by omega, rfl, rfl, rfl⟩
  case round =>
    obtain ⟨i, hi, hgg, rfl, rfl, rfl⟩ := hrel
    by_cases hlt : i < 4
    · have hltz : (i : Int) < 4 := by omega
      have c1 := BA.out i wr (by omega)
      have NX : Hid (∀ j, j < 4 → pp a b (4 * i + j + 1) = if a.testBit i && b.testBit j then pp a b (4 * i + j) ^^^ 2 ^ (i + j) else pp a b (4 * i + j)) := fun j hj => by
        show (if a.testBit ((4 * i + j) / 4) && b.testBit ((4 * i + j) % 4) then pp a b (4 * i + j) ^^^ 2 ^ ((4 * i + j) / 4 + (4 * i + j) % 4) else pp a b (4 * i + j)) = _
        rw [show (4 * i + j) / 4 = i by omega, show (4 * i + j) % 4 = j by omega]
      generalize a.testBit i = t at *
      go_wp2
      go_loopg [5, 7] 4 (fun gg s5 s7 wr' => ∃ j : Nat, j ≤ 4 ∧ 4 - j ≤ gg ∧ s5 = .int .u32 (pp a b (4 * i + j) : Nat) ∧ s7 = .int .i64 j ∧ wr' = wr)
      case atStart => exact ⟨0, Nat.zero_le _, by omega, rfl, rfl, rfl⟩
      case round =>
        obtain ⟨j, hj, hgg2, rfl, rfl, rfl⟩ := hrel
        by_cases hlt2 : j < 4
        · have hltz2 : (j : Int) < 4 := by omega
          have c2 := BB.out j wr (by omega)
          have nx := NX.out j hlt2
          have l1 := PL.out (4 * i + j) (by omega)
          generalize b.testBit j = u at *
          generalize pp a b (4 * i + j) = P at *
          cases t
          · have nx' : Hid (P = pp a b (4 * i + (j + 1))) := nx.symm
            clear nx c2
            go_wp2_with fail
            refine c1.mono ?_
            rintro e w' ⟨rfl, rfl⟩
            clear c1
            go_wp2
            go_roundg (4 - (j + 1))
            case measure => omega
            case rel => exact ⟨j + 1, by omega, by omega, by rw [nx'.out], by go_num, rfl⟩
          · cases u
            · have nx' : Hid (P = pp a b (4 * i + (j + 1))) := nx.symm
              clear nx
              go_wp2_with fail
              refine c1.mono ?_
              rintro e w' ⟨rfl, rfl⟩
              clear c1
              go_wp2_with fail
              refine c2.mono ?_
              rintro e w' ⟨rfl, rfl⟩
              clear c2
              go_wp2
              go_roundg (4 - (j + 1))
              case measure => omega
              case rel => exact ⟨j + 1, by omega, by omega, by rw [nx'.out], by go_num, rfl⟩
            · have nx' : Hid (P ^^^ 2 ^ (i + j) = pp a b (4 * i + (j + 1))) := nx.symm
              clear nx
              obtain ⟨m, hm⟩ : ∃ m : Nat, i + j = m := ⟨_, rfl⟩
              have hm32 : m < 32 := by omega
              have e2 : bits BinOp.xor IntKind.u32 (P : Int) ((2 : Int) ^ m % 4294967296) = ((P ^^^ 2 ^ m : Nat) : Int) := by
                rw [pow_in m hm32, u32_xor_nat P (2 ^ m) (by omega) (Nat.pow_lt_pow_right (n := 32) (by decide) hm32)]
              have hm' : (i : Int) + (j : Int) = (m : Int) := by omega
              rw [hm] at nx'
              generalize P ^^^ 2 ^ m = S at *
              go_wp2_with fail
              refine c1.mono ?_
              rintro e w' ⟨rfl, rfl⟩
              clear c1
              go_wp2_with fail
              refine c2.mono ?_
              rintro e w' ⟨rfl, rfl⟩
              clear c2
              go_wp2
              go_roundg (4 - (j + 1))
              case measure => omega
              case rel => exact ⟨j + 1, by omega, by omega, by rw [← nx'.out], by go_num, rfl⟩
        · obtain rfl : j = 4 := by omega
          go_wp2
          go_roundg (4 - (i + 1))
          case measure => omega
          case rel => exact ⟨i + 1, by omega, by omega, rfl, by go_num, rfl⟩
    · obtain rfl : i = 4 := by omega
      have p1 : Hid (pp a b 16 < 128) := PL.out 16 (by omega)
      generalize pp a b 16 = P at *
      have RL : Hid (∀ k, k < 4 → rd P k < 128) := fun k hk => rd_lt p1.out hk
      clear p1 PL
      go_wp2
      go_loopg [5, 8] 3 (fun gg s5 s8 wr' => ∃ k : Nat, k ≤ 3 ∧ 3 - k ≤ gg ∧ s5 = .int .u32 (rd P k : Nat) ∧ s8 = .int .i64 ((6 - k : Nat) : Int) ∧ wr' = wr)
      case atStart => exact ⟨0, Nat.zero_le _, by omega, rfl, rfl, rfl⟩
      case round =>
        obtain ⟨k, hk, hgg2, rfl, rfl, rfl⟩ := hrel
        by_cases hlt : k < 3
        · have l1 := RL.out k (by omega)
          have c1 := bit_any (rd P k) (6 - k) (by omega) (by omega) wr
          have nx : rd P (k + 1) = if (rd P k).testBit (6 - k) then rd P k ^^^ 19 * 2 ^ (2 - k) else rd P k := rfl
          have e2 : bits BinOp.xor IntKind.u32 (rd P k : Int) ((19 * 2 ^ (2 - k) : Nat) : Int) = ((rd P k ^^^ 19 * 2 ^ (2 - k) : Nat) : Int) := u32_xor_nat _ _ (by omega) (by
            have : 2 ^ (2 - k) ≤ 2 ^ 2 := Nat.pow_le_pow_right (by omega) (by omega)
            omega)
          generalize (rd P k).testBit (6 - k) = t at *
          generalize rd P k ^^^ 19 * 2 ^ (2 - k) = S at *
          generalize rd P k = R at *
          cases t
          · have nx' : Hid (R = rd P (k + 1)) := nx.symm
            clear nx e2
            have h4 : (4 : Int) ≤ ((6 - k : Nat) : Int) := by omega
            go_wp2_with fail
            refine c1.mono ?_
            rintro e w' ⟨rfl, rfl⟩
            clear c1
            go_wp2
            go_roundg (3 - (k + 1))
            case measure => omega
            case rel => exact ⟨k + 1, by omega, by omega, by rw [nx'.out], by go_num, rfl⟩
          · have nx' : Hid (S = rd P (k + 1)) := nx.symm
            clear nx
            obtain ⟨n, hn⟩ : ∃ n, k + 1 = n := ⟨_, rfl⟩
            rw [hn] at nx'
            have HN : Hid (n ≤ 3 ∧ 3 - n < 3 - k ∧ ((6 - k : Nat) : Int) - 1 = ((6 - n : Nat) : Int)) := by refine ⟨?_, ?_, ?_⟩ <;> omega
            clear hn
            obtain rfl | rfl | rfl : k = 0 ∨ k = 1 ∨ k = 2 := by omega
            all_goals
              simp only [Nat.reduceSub, Nat.reducePow, Nat.reduceMul, Int.cast_ofNat_Int] at *
              go_wp2_with fail
              refine c1.mono ?_
              rintro e w' ⟨rfl, rfl⟩
              clear c1
              go_wp2
              have hn := HN.out
              go_roundg (3 - n)
              case measure => omega
              case rel => exact ⟨n, by omega, by omega, by rw [← nx'.out], by rw [← hn.2.2]; go_num, rfl⟩
        · obtain rfl : k = 3 := by omega
          have f := fin.out
          rw [f]
          clear fin f
          go_wp2
          go_ret
          exact ⟨rfl, rfl⟩

end Go.Proofs.YtjdipgkdaloclaaDoor
