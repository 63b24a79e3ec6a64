/-
  quipuref.Muller.
-/
import Derived.Test.YtakojkekelhobaaSo
namespace Go.Proofs.Ytakojkekelhobaa
open Go.RowKit
set_option linter.unusedVariables false

set_option maxHeartbeats 2000000 in
theorem muller_any (r m : Nat) (hm : m ≤ 4) (hr : r ≤ m) (d : Wd) (hl : d.l.length = (pl m (r + 1)).length) (w : World) (hd : Bits w d) :
    Calls Try.prog 13 #[.int .i64 r, .int .i64 m, d.v] w fun e w' => ∃ v, e = .returned v ∧ OwnB w w' v (bl (cw (pl m (r + 1)) (fun i => d.l.getD i false)) (2 ^ m)) := by
  have pw := pow_four m hm
  have lim := pow_lim hm
  have few := l_few hm hr
  obtain ⟨a2, c2, l⟩ := d
  obtain ⟨q1, q2, _, b2, o2, q4, q5⟩ := hd
  simp only at q1 q2 q4 q5 hl
  simp only [Wd.v]
  rw [hl] at q1 q4 q5 ⊢
  obtain ⟨L, hL⟩ : ∃ L, pl m (r + 1) = L := ⟨_, rfl⟩
  have PR : Hid (∀ W, Calls Try.prog 10 #[.int .i64 r, .int .i64 m] W fun e w' => ∃ y : Nm, e = .returned y.v ∧ y.z = iv L ∧ Nums w' y ∧ Ext W w') := fun W => by
    refine (products_any r m hm hr W).mono ?_
    rintro e w' ⟨v, rfl, O⟩
    obtain ⟨y, rfl, h1, h2⟩ := O.nums
    exact ⟨y, rfl, by rw [h1, hL], h2, O.1⟩
  have HL : Hid (∀ i, i < L.length → L.getD i 0 < 16) := fun i hi => by
    rw [← hL] at hi ⊢
    have := (l_at hm hr hi).2
    omega
  rw [hL] at few q1 q4 q5 ⊢
  obtain ⟨P, hP⟩ : ∃ P : Nat → Nat, ∀ i, P i = L.getD i 0 := ⟨_, fun _ => rfl⟩
  obtain ⟨D, hD⟩ : ∃ D : Nat → Bool, ∀ i, D i = l.getD i false := ⟨_, fun _ => rfl⟩
  obtain ⟨G, hG⟩ : ∃ G : Nat → Nat → Bool, ∀ x k, G x k = xs (fun i => D i && wi (P i) x) k := ⟨_, fun _ _ => rfl⟩
  obtain ⟨S, hS⟩ : ∃ S : Nat → List Bool, ∀ k, S k = bl (fun x => G x L.length) k := ⟨_, fun _ => rfl⟩
  have ES : bl (cw L (fun i => l.getD i false)) (2 ^ m) = S (2 ^ m) := by
    rw [hS]
    refine bl_congr (fun x _ => ?_)
    rw [hG]
    exact xs_congr _ (fun i _ => by rw [hD, hP])
  rw [ES]
  have HB : Hid (∀ i, i < L.length → w.cell? ⟨b2, o2 + i, none⟩ = some (.bool (D i))) := fun i hi => by rw [hD]; exact q5 i hi
  have HP : Hid (∀ i, i < L.length → P i < 16) := fun i hi => by rw [hP]; exact HL.out i hi
  have G0 : Hid (∀ x, G x 0 = false) := fun x => by rw [hG]; rfl
  have GN : Hid (∀ x k, G x (k + 1) = (G x k != (D k && wi (P k) x))) := fun x k => by rw [hG, hG]; rfl
  have S0 : Hid (S 0 = []) := by show _ = _; rw [hS]; rfl
  have SN : Hid (∀ k, S (k + 1) = S k ++ [G k L.length]) := fun k => by rw [hS, hS, bl_snoc]
  have SL : Hid (∀ k, k ≤ 16 → (S k).length + 1 ≤ 140737488355328) := fun k h => by rw [hS, bl_len]; omega
  have PR' : Hid (∀ W, Calls Try.prog 10 #[.int .i64 r, .int .i64 m] W fun e w' => ∃ (a : Option Addr) (c b o : Nat), e = .returned (.slice a L.length c) ∧ L.length ≤ c ∧ c ≤ 9223372036854775807 ∧ (0 < L.length → a = some ⟨b, o, none⟩) ∧ (∀ i, i < L.length → w'.cell? ⟨b, o + i, none⟩ = some (.int .i64 (P i : Nat))) ∧ Ext W w') := fun W => by
    refine (PR.out W).mono ?_
    rintro e w' ⟨⟨a, c, z⟩, rfl, hz, ⟨n1, n2, _, b, o, n4, n5⟩, E⟩
    simp only at hz n1 n2 n4 n5
    subst hz
    rw [iv_len] at n1 n4 n5
    unfold maxLen at n2
    refine ⟨a, c, b, o, by simp only [Nm.v, iv_len], n1, by omega, n4, fun i hi => ?_, E⟩
    rw [n5 i hi, iv_at, hP]
  clear q5 hL HL PR hP hD hG hS ES hl
  unfold maxLen at q2
  generalize L.length = n at *
  generalize 2 ^ m = M at *
  go_enter Try.func13, Try.ntmps13
  go_wp2
  go_loopg [7, 8] M (fun gg s7 s8 wr => ∃ (x : Nat) (sv : Value), x ≤ M ∧ M - x ≤ gg ∧ s8 = .int .i64 x ∧ sv = s7 ∧ Aside (OwnB w wr sv (S x)))
  case atStart => exact ⟨0, _, Nat.zero_le _, by omega, rfl, rfl, by show OwnB _ _ _ _; rw [S0.out]; exact OwnB.nil (Ext.refl _)⟩
  case round =>
    obtain ⟨x, u7, hx, hgg, rfl, rfl, X⟩ := hrel
    clear S0
    by_cases hlt : x < M
    · have hltz : (x : Int) < (M : Int) := by omega
      have c1 := PR'.out wr
      have sn := SN.out x
      have SN' : Hid (S (x + 1) = S x ++ [G x n]) := sn
      have SL' : Hid ((S x).length + 1 ≤ 140737488355328) := SL.out x (by omega)
      have G0' : Hid (G x 0 = false) := G0.out x
      have GN' : Hid (∀ k, G x (k + 1) = (G x k != (D k && wi (P k) x))) := GN.out x
      clear sn SN SL G0 GN PR'
      go_wp2_with (go_at_call 10; refine c1.mono ?_; rintro e w1 ⟨a, c, b, o, rfl, n1, n2, n4, n5, E1⟩; clear c1; have HC : Hid (∀ i, i < n → w1.cell? ⟨b, o + i, none⟩ = some (.int .i64 (P i : Nat))) := n5; have N4 : Hid (0 < n → a = some ⟨b, o, none⟩) := n4; have X1 : Hid (OwnB w w1 u7 (S x)) := X.out.ext E1; clear X n5 n4 E1)
      go_loopg [9, 23] n (fun gg s9 s23 wr' => ∃ k : Nat, k ≤ n ∧ n - k ≤ gg ∧ s23 = .int .i64 k ∧ s9 = .bool (G x k) ∧ wr' = w1)
      case atStart => exact ⟨0, Nat.zero_le _, by omega, rfl, by rw [G0'.out], rfl⟩
      case round =>
        obtain ⟨k, hk, hgk, rfl, rfl, rfl⟩ := hrel
        clear G0'
        by_cases hlk : k < n
        · have hkz : (k : Int) < (n : Int) := by omega
          obtain rfl := N4.out (by omega)
          obtain rfl := q4 (by omega)
          have e1 := HC.out k hlk
          have e2 := X1.out.1.cell (HB.out k hlk)
          have hp := HP.out k hlk
          have ea := and_at (a := P k) (b := x) hp (by omega)
          have gn := GN'.out k
          clear HC HB HP GN' SN' SL' X1 N4 q4
          generalize P k = p at *
          generalize D k = dk at *
          cases hw : wi p x
          · have hne : ¬ p &&& x = p := beq_eq_false_iff_ne.1 hw
            rw [hw, Bool.and_false, Bool.bne_false] at gn
            have gn' : Hid (G x (k + 1) = G x k) := gn
            clear gn hw
            generalize G x k = g at *
            generalize p &&& x = t at *
            have hti : ¬ (t : Int) = (p : Int) := by omega
            cases dk
            all_goals
              go_wp2
              go_roundg (n - (k + 1))
              case measure => omega
              case rel => exact ⟨k + 1, by omega, by omega, by go_num, by rw [gn'.out], rfl⟩
          · have heq : p &&& x = p := beq_iff_eq.1 hw
            rw [hw, Bool.and_true] at gn
            have gn' : Hid (G x (k + 1) = (G x k != dk)) := gn
            clear gn hw
            generalize G x k = g at *
            generalize p &&& x = t at *
            have hti : (t : Int) = (p : Int) := by omega
            subst heq
            cases dk <;> cases g
            all_goals
              go_wp2
              go_roundg (n - (k + 1))
              case measure => omega
              case rel => exact ⟨k + 1, by omega, by omega, by go_num, by rw [gn'.out]; rfl, rfl⟩
        · obtain rfl : k = n := by omega
          have hkz : ¬ (k : Int) < (k : Int) := by omega
          clear HC HB HP GN' N4
          generalize G x k = g at *
          go_wp2_with (at_builtin; refine wpList_appendBit rfl _ _ rfl w _ u7 (by rfl) _ X1.out g (by rfl) SL'.out ?_; intro v' w3 O3; have O3' : Hid (OwnB w w3 v' (S (x + 1))) := by (show OwnB _ _ _ _; rw [SN'.out]; exact O3))
          go_roundg (M - (x + 1))
          case measure => omega
          case rel => exact ⟨x + 1, _, by omega, by omega, by go_num, rfl, O3'.out⟩
    · obtain rfl : x = M := by omega
      have hltz : ¬ (x : Int) < (x : Int) := by omega
      clear HB HP G0 GN SN SL PR'
      go_wp2
      go_ret
      exact ⟨_, rfl, X.out⟩

end Go.Proofs.Ytakojkekelhobaa
