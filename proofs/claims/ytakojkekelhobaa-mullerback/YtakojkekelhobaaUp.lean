/-
  muller.productsUpTo.
-/
import Derived.Test.YtakojkekelhobaaUt
namespace Go.Proofs.Ytakojkekelhobaa
open Go.RowKit
set_option linter.unusedVariables false

theorem upTo_any (r m : Nat) (hm : m ≤ 4) (hr : r ≤ m) (w : World) : Calls Try.prog 18 #[.int .i64 r, .int .i64 m] w fun e w' => ∃ x : Um, e = .returned x.v ∧ x.z = pl m (r + 1) ∧ Us w' x ∧ Ext w w' := by
  have pw : (2 : Int) ^ m % 4294967296 = ((2 ^ m : Nat) : Int) := pow_in m (by omega)
  have lim := pow_lim hm
  have SRT : Hid (∀ v w2, OwnU w w2 v (ff r (2 ^ m)) → Calls Try.prog 24 #[v, .func (.func 25) #[] #[]] w2 fun e w' => e = .returned (.tuple #[]) ∧ Ext w w' ∧ ∃ x : Um, v = x.v ∧ x.z = pl m (r + 1) ∧ Us w' x) := fun v w2 h => sort_any hm hr w w2 v h
  have DG : Hid (∀ (x : Nat) W, x < 4096 → Calls Try.prog 23 #[.int .u32 x] W fun e w' => e = .returned (.int .i64 (pop x : Nat)) ∧ ∃ d, w' = W.drewN d) := fun x W h => degreeOf_any x h W
  obtain ⟨S, hS⟩ : ∃ S : Nat → List Nat, ∀ k, S k = ff r k := ⟨_, fun _ => rfl⟩
  have YES : Hid (∀ k, pop k ≤ r → S (k + 1) = S k ++ [k]) := fun k h => by rw [hS, hS, ff_yes h]
  have NO : Hid (∀ k, ¬ pop k ≤ r → S (k + 1) = S k) := fun k h => by rw [hS, hS, ff_no h]
  have LE : Hid (∀ k, k ≤ 16 → ((S k).length + 1) * 4 ≤ 140737488355328) := fun k h => by
    have := ff_few r k
    rw [hS]
    omega
  have Z0 : Hid (S 0 = []) := by show _ = _; rw [hS]; rfl
  have SRT' : Hid (∀ v w2, OwnU w w2 v (S (2 ^ m)) → Calls Try.prog 24 #[v, .func (.func 25) #[] #[]] w2 fun e w' => e = .returned (.tuple #[]) ∧ Ext w w' ∧ ∃ x : Um, v = x.v ∧ x.z = pl m (r + 1) ∧ Us w' x) := by
    show ∀ v w2, _
    rw [hS]; exact SRT
  clear SRT hS
  generalize pl m (r + 1) = L at *
  generalize 2 ^ m = M at *
  go_enter Try.func18, Try.ntmps18
  go_wp2
  rw [pw]
  clear pw
  go_loopg [5, 9] M (fun gg s5 s9 wr => ∃ (k : Nat) (sv : Value), k ≤ M ∧ M - k ≤ gg ∧ s9 = .int .u32 k ∧ sv = s5 ∧ Aside (OwnU w wr sv (S k)))
  case atStart => exact ⟨0, _, Nat.zero_le _, by omega, rfl, rfl, by show OwnU _ _ _ _; rw [Z0.out]; exact OwnU.nil (Ext.refl _)⟩
  case round =>
    obtain ⟨k, u5, hk, hgg, rfl, rfl, X⟩ := hrel
    clear Z0
    by_cases hlt : k < M
    · have hltz : (k : Int) < (M : Int) := by omega
      have c1 := DG.out k wr (by omega)
      have le := LE.out k (by omega)
      have yes := YES.out k
      have no := NO.out k
      clear YES NO LE DG SRT'
      have HLE : Hid (((S k).length + 1) * 4 ≤ 140737488355328) := le
      clear le
      generalize pop k = z at *
      by_cases hz : z ≤ r
      · have yes' : Hid (S (k + 1) = S k ++ [k]) := yes hz
        have hzi : (z : Int) ≤ (r : Int) := by omega
        clear yes no
        go_wp2_with (first | (go_at_call 23; refine c1.mono ?_; rintro e w2 ⟨rfl, d, rfl⟩; clear c1) | (at_builtin; refine wpList_appendU rfl _ _ rfl w _ u5 (by rfl) _ (X.out.ext ((Ext.refl _).drewN _)) k (by rfl) HLE.out ?_; intro v' w3 O3; have O3' : Hid (OwnU w w3 v' (S (k + 1))) := by (show OwnU _ _ _ _; rw [yes'.out]; exact O3)))
        go_roundg (M - (k + 1))
        case measure => omega
        case rel => exact ⟨k + 1, _, by omega, by omega, by go_num, rfl, O3'.out⟩
      · have no' : Hid (S (k + 1) = S k) := no hz
        have hzi : ¬ (z : Int) ≤ (r : Int) := by omega
        clear yes no
        go_wp2_with (go_at_call 23; refine c1.mono ?_; rintro e w2 ⟨rfl, d, rfl⟩; clear c1)
        go_roundg (M - (k + 1))
        case measure => omega
        case rel => exact ⟨k + 1, _, by omega, by omega, by go_num, rfl, by show OwnU _ _ _ _; rw [no'.out]; exact X.out.ext ((Ext.refl _).drewN _)⟩
    · obtain rfl : k = M := by omega
      have hltz : ¬ (k : Int) < (k : Int) := by omega
      have c1 := SRT'.out u5 wr X.out
      clear YES NO LE DG SRT'
      go_wp2_with (go_at_call 24; refine c1.mono ?_; rintro e w2 ⟨rfl, E, x, rfl, hz, hU⟩; clear c1; have E' : Hid (Ext w w2) := E; have HZ : Hid (x.z = L) := hz; have HU : Hid (Us w2 x) := hU; clear E hz hU)
      go_ret
      exact ⟨x, rfl, HZ.out, HU.out, E'.out⟩

end Go.Proofs.Ytakojkekelhobaa
