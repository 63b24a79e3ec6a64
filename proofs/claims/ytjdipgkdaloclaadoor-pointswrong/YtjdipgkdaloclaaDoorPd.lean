/-
  field.product.
-/
import Derived.Test.YtjdipgkdaloclaaDoorGf
import Derived.Test.YtjdipgkdaloclaaDoorOwn
import Derived.Shelf.Abstract
namespace Go.Proofs.YtjdipgkdaloclaaDoor
open Go.RowKit

set_option maxRecDepth 100000 in
theorem xor_all : ∀ a b : Fin 32, bits BinOp.xor IntKind.i64 (a.val : Int) (b.val : Int) = ((a.val ^^^ b.val : Nat) : Int) := by decide +kernel
theorem xor_at {a b : Nat} (ha : a < 32) (hb : b < 32) : bits BinOp.xor IntKind.i64 (a : Int) (b : Int) = ((a ^^^ b : Nat) : Int) := xor_all ⟨a, ha⟩ ⟨b, hb⟩
theorem odd_all : ∀ b : Fin 16, bits BinOp.and IntKind.i64 (b.val : Int) 1 = ((b.val % 2 : Nat) : Int) := by decide +kernel
theorem odd_at {b : Nat} (hb : b < 16) : bits BinOp.and IntKind.i64 (b : Int) 1 = ((b % 2 : Nat) : Int) := odd_all ⟨b, hb⟩

theorem product_any (a b : Nat) (ha : a < 16) (hb : b < 16) (w : World) : Calls Tryd.prog 27 #[.int .i64 a, .int .i64 b] w fun e w' => e = .returned (.int .i64 (gm a b : Nat)) ∧ w' = w := by
  obtain ⟨G, hG⟩ : ∃ G, G = gm a b := ⟨_, rfl⟩
  rw [← hG]
  go_enter Tryd.func27, Tryd.ntmps27
  go_wp2
  go_loopg [0, 1, 5] 16 (fun gg s0 s1 s5 wr => ∃ p q s : Nat, s0 = .int .i64 p ∧ s1 = .int .i64 q ∧ s5 = .int .i64 s ∧ p < 16 ∧ q < 16 ∧ s < 16 ∧ q ≤ gg ∧ Aside (s ^^^ gm p q = G) ∧ wr = w)
  case atStart => exact ⟨a, b, 0, rfl, rfl, rfl, ha, hb, by omega, by omega, (show 0 ^^^ gm a b = G by rw [Nat.zero_xor, hG]), rfl⟩
  case round =>
    obtain ⟨p, q, s, rfl, rfl, rfl, hp, hq, hs, hgg, A, rfl⟩ := hrel
    clear hG ha hb
    have lp := db_lt hp
    by_cases hz : q = 0
    · subst hz
      have : s = G := by have := A.out; rwa [gm_zero hp, Nat.xor_zero] at this
      subst this
      go_wp2
      go_ret
      exact ⟨rfl, rfl⟩
    · have hpos : (0 : Int) < (q : Int) := by omega
      have st := gm_step hp hq
      have nx : Hid ((s ^^^ (if q % 2 = 1 then p else 0)) ^^^ gm (db p) (q / 2) = G) := by rw [Nat.xor_assoc, ← st]; exact A.out
      have e1 := odd_at hq
      have e2 := xor_at (a := s) (b := p) (by omega) (by omega)
      have e3 := xor_at (a := 2 * p) (b := 19) (by omega) (by omega)
      have l2 := xor_lt hs hp
      clear st
      have d1 : 16 ≤ 2 * p → db p = (2 * p) ^^^ 19 := fun h => if_pos h
      have d2 : ¬ 16 ≤ 2 * p → db p = 2 * p := fun h => if_neg h
      have eG : ∀ s' p' : Nat, s' = (s ^^^ (if q % 2 = 1 then p else 0)) → p' = db p → Aside (s' ^^^ gm p' (q / 2) = G) := fun s' p' h h' => by rw [h, h']; exact nx.out
      have EG : Hid (∀ s' p' : Nat, s' = (s ^^^ (if q % 2 = 1 then p else 0)) → p' = db p → Aside (s' ^^^ gm p' (q / 2) = G)) := eG
      clear eG nx A
      rcases Nat.mod_two_eq_zero_or_one q with h | h
      · rw [h] at e1
        have e1' : (bits BinOp.and IntKind.i64 (q : Int) 1 == 1) = false := by rw [e1]; rfl
        have es : s = s ^^^ (if q % 2 = 1 then p else 0) := by rw [h]; simp
        have ES : Hid (s = s ^^^ (if q % 2 = 1 then p else 0)) := es
        clear es h e1
        rcases Nat.lt_or_ge (2 * p) 16 with h5 | h5
        · have D : Hid (2 * p = db p) := (d2 (by omega)).symm
          clear d1 d2 e3 e2
          have h6 : (p : Int) * 2 < 16 := by omega
          go_wp2
          go_roundg (q / 2)
          case measure => omega
          case rel => exact ⟨2 * p, q / 2, s, by go_num, by go_num, rfl, by omega, by omega, hs, by omega, EG.out _ _ ES.out D.out, rfl⟩
        · have D : Hid ((2 * p) ^^^ 19 = db p) := (d1 (by omega)).symm
          have l3 : (2 * p) ^^^ 19 < 16 := by rw [D.out]; exact lp
          clear d1 d2 e2
          have h6 : 16 ≤ (p : Int) * 2 := by omega
          have e3' : bits BinOp.xor IntKind.i64 ((p : Int) * 2) 19 = (((2 * p) ^^^ 19 : Nat) : Int) := by rw [← e3]; congr 1; omega
          clear e3
          generalize (2 * p) ^^^ 19 = P at *
          go_wp2
          go_roundg (q / 2)
          case measure => omega
          case rel => exact ⟨P, q / 2, s, rfl, by go_num, rfl, l3, by omega, hs, by omega, EG.out _ _ ES.out D.out, rfl⟩
      · rw [h] at e1
        have e1' : (bits BinOp.and IntKind.i64 (q : Int) 1 == 1) = true := by rw [e1]; rfl
        have es : s ^^^ p = s ^^^ (if q % 2 = 1 then p else 0) := by rw [h]; simp
        have ES : Hid (s ^^^ p = s ^^^ (if q % 2 = 1 then p else 0)) := es
        clear es h e1
        generalize s ^^^ p = S at *
        rcases Nat.lt_or_ge (2 * p) 16 with h5 | h5
        · have D : Hid (2 * p = db p) := (d2 (by omega)).symm
          clear d1 d2 e3
          have h6 : (p : Int) * 2 < 16 := by omega
          go_wp2
          go_roundg (q / 2)
          case measure => omega
          case rel => exact ⟨2 * p, q / 2, S, by go_num, by go_num, rfl, by omega, by omega, l2, by omega, EG.out _ _ ES.out D.out, rfl⟩
        · have D : Hid ((2 * p) ^^^ 19 = db p) := (d1 (by omega)).symm
          have l3 : (2 * p) ^^^ 19 < 16 := by rw [D.out]; exact lp
          clear d1 d2
          have h6 : 16 ≤ (p : Int) * 2 := by omega
          have e3' : bits BinOp.xor IntKind.i64 ((p : Int) * 2) 19 = (((2 * p) ^^^ 19 : Nat) : Int) := by rw [← e3]; congr 1; omega
          clear e3
          generalize (2 * p) ^^^ 19 = P at *
          go_wp2
          go_roundg (q / 2)
          case measure => omega
          case rel => exact ⟨P, q / 2, S, rfl, by go_num, rfl, l3, by omega, l2, by omega, EG.out _ _ ES.out D.out, rfl⟩

end Go.Proofs.YtjdipgkdaloclaaDoor
