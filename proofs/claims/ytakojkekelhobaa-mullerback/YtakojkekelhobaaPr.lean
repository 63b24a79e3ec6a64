/-
  quipuref.Products.
-/
import Derived.Test.YtakojkekelhobaaRw
import Derived.Test.YtakojkekelhobaaSw
import Derived.Test.YtakojkekelhobaaMu3
namespace Go.Proofs.Ytakojkekelhobaa
open Go.RowKit
set_option linter.unusedVariables false

theorem pow_four (m : Nat) (hm : m ≤ 4) : wrap64 (2 ^ m) = ((2 ^ m : Nat) : Int) := by
  obtain rfl | rfl | rfl | rfl | rfl : m = 0 ∨ m = 1 ∨ m = 2 ∨ m = 3 ∨ m = 4 := by omega
  all_goals simp [wrap64]
theorem pow_lim {m : Nat} (hm : m ≤ 4) : 1 ≤ 2 ^ m ∧ 2 ^ m ≤ 16 := by
  obtain rfl | rfl | rfl | rfl | rfl : m = 0 ∨ m = 1 ∨ m = 2 ∨ m = 3 ∨ m = 4 := by omega
  all_goals decide

/-- The products of a degree below d, and those of degree d that are below p. -/
def ps (m d p : Nat) : List Nat := pl m d ++ (List.range p).filter (fun q => pop q == d)
theorem ps_zero (m d : Nat) : ps m d 0 = pl m d := by unfold ps; simp
theorem ps_all (m d : Nat) : ps m d (2 ^ m) = pl m (d + 1) := rfl
theorem ps_yes {m d p : Nat} (h : pop p = d) : ps m d (p + 1) = ps m d p ++ [p] := by
  unfold ps
  rw [List.range_succ, List.filter_append, ← List.append_assoc]
  simp [h]
theorem ps_no {m d p : Nat} (h : ¬ pop p = d) : ps m d (p + 1) = ps m d p := by
  unfold ps
  rw [List.range_succ, List.filter_append, ← List.append_assoc]
  simp [h]
theorem ps_few {m d p : Nat} (hm : m ≤ 4) (hd : d ≤ 5) (hp : p ≤ 16) : (ps m d p).length ≤ 32 := by
  have h1 := pl_few ⟨m, by omega⟩ ⟨d, by omega⟩
  have h2 := List.length_filter_le (fun q => pop q == d) (List.range p)
  unfold ps
  simp only [List.length_append, List.length_range] at *
  omega

theorem products_any (r m : Nat) (hm : m ≤ 4) (hr : r ≤ m) (w : World) : Calls Try.prog 10 #[.int .i64 r, .int .i64 m] w fun e w' => ∃ v, e = .returned v ∧ OwnN w w' v (iv (pl m (r + 1))) := by
  have pw := pow_four m hm
  have lim := pow_lim hm
  obtain ⟨S, hS⟩ : ∃ S : Nat → Nat → List Int, ∀ d p, S d p = iv (ps m d p) := ⟨_, fun _ _ => rfl⟩
  have YES : Hid (∀ d p, pop p = d → S d (p + 1) = S d p ++ [(p : Int)]) := fun d p h => by rw [hS, hS, ps_yes h, iv_snoc]
  have NO : Hid (∀ d p, ¬ pop p = d → S d (p + 1) = S d p) := fun d p h => by rw [hS, hS, ps_no h]
  have LE : Hid (∀ d p, d ≤ 5 → p ≤ 16 → ((S d p).length + 1) * 8 ≤ 140737488355328) := fun d p h h' => by
    have := ps_few hm h h'
    rw [hS, iv_len]
    omega
  have NX : Hid (∀ d, S d (2 ^ m) = S (d + 1) 0) := fun d => by rw [hS, hS, ps_all, ps_zero]
  have Z0 : Hid (S 0 0 = []) := by show _ = _; rw [hS]; rfl
  have ZN : iv (pl m (r + 1)) = S (r + 1) 0 := by rw [hS, ps_zero]
  have SZ : Hid (∀ (x : Nat) W, x < 4294967296 → Calls Try.prog 19 #[.int .u32 x] W fun e w' => e = .returned (.int .i64 (pop x : Nat)) ∧ w' = W) := fun x W h => size_any x h W
  rw [ZN]
  clear ZN hS
  generalize 2 ^ m = M at *
  go_enter Try.func10, Try.ntmps10
  go_wp2
  go_loopg [5, 6] (r + 1) (fun gg s5 s6 wr => ∃ (d : Nat) (sv : Value), d ≤ r + 1 ∧ r + 1 - d ≤ gg ∧ s6 = .int .i64 d ∧ sv = s5 ∧ Aside (OwnN w wr sv (S d 0)))
  case atStart => exact ⟨0, _, Nat.zero_le _, by omega, rfl, rfl, by show OwnN _ _ _ _; rw [Z0.out]; exact OwnN.nil (Ext.refl _)⟩
  case round =>
    obtain ⟨d, u5, hd, hgg, rfl, rfl, X⟩ := hrel
    clear Z0
    by_cases hlt : d < r + 1
    · have hltz : (d : Int) ≤ (r : Int) := by omega
      go_wp2
      go_loopg [5, 7] M (fun gg s5 s7 wq => ∃ (p : Nat) (sv : Value), p ≤ M ∧ M - p ≤ gg ∧ s7 = .int .i64 p ∧ sv = s5 ∧ Aside (OwnN w wq sv (S d p)))
      case atStart => exact ⟨0, _, Nat.zero_le _, by omega, rfl, rfl, X.out⟩
      case round =>
        obtain ⟨p, v5, hp, hgp, rfl, rfl, Y⟩ := hrel
        clear X
        by_cases hlp : p < M
        · have hpz : (p : Int) < (M : Int) := by omega
          have c1 := SZ.out p wr (by omega)
          have le := LE.out d p (by omega) (by omega)
          have yes := YES.out d p
          have no := NO.out d p
          clear YES NO LE NX SZ
          have HLE : Hid (((S d p).length + 1) * 8 ≤ 140737488355328) := le
          clear le
          generalize pop p = z at *
          by_cases hz : z = d
          · have yes' : Hid (S d (p + 1) = S d p ++ [(p : Int)]) := yes hz
            clear yes no
            subst hz
            go_wp2_with (first | (go_at_call 19; refine c1.mono ?_; rintro e w2 ⟨rfl, rfl⟩; clear c1) | (at_builtin; refine wpList_appendNum rfl _ _ rfl w _ v5 (by rfl) _ Y.out (p : Int) (by rfl) HLE.out ?_; intro v' w3 O3; have O3' : Hid (OwnN w w3 v' (S z (p + 1))) := by (show OwnN _ _ _ _; rw [yes'.out]; exact O3)))
            go_roundg (M - (p + 1))
            case measure => omega
            case rel => exact ⟨p + 1, _, by omega, by omega, by go_num, rfl, O3'.out⟩
          · have no' : Hid (S d (p + 1) = S d p) := no hz
            have hz' : ¬ (z : Int) = (d : Int) := by omega
            clear yes no
            go_wp2_with (go_at_call 19; refine c1.mono ?_; rintro e w2 ⟨rfl, rfl⟩; clear c1)
            go_roundg (M - (p + 1))
            case measure => omega
            case rel => exact ⟨p + 1, _, by omega, by omega, by go_num, rfl, by show OwnN _ _ _ _; rw [no'.out]; exact Y.out⟩
        · obtain rfl : p = M := by omega
          have hpz : ¬ (p : Int) < (p : Int) := by omega
          have nx := NX.out d
          clear YES NO LE NX SZ
          have nx' : Hid (S d p = S (d + 1) 0) := nx
          clear nx
          go_wp2
          go_roundg (r + 1 - (d + 1))
          case measure => omega
          case rel => exact ⟨d + 1, _, by omega, by omega, by go_num, rfl, by show OwnN _ _ _ _; rw [← nx'.out]; exact Y.out⟩
    · obtain rfl : d = r + 1 := by omega
      have hltz : ¬ (((r + 1 : Nat) : Int) ≤ (r : Int)) := by omega
      clear YES NO LE NX SZ pw
      go_wp2
      go_ret
      exact ⟨_, rfl, X.out⟩

end Go.Proofs.Ytakojkekelhobaa
