/-
  hamm.fix: the bit that the pointer tells turned, the data taken out.
-/
import Derived.Test.YtdplmaofapnhhaaDat
namespace Go.Proofs.Ytdplmaofapnhhaa
open Go.RowKit
set_option linter.unusedVariables false

theorem nd_le : ∀ n k, nd k n ≤ n
  | 0, _ => Nat.le_refl 0
  | n + 1, k => by
    have := nd_le n (k + 1)
    show (if isC k then 0 else 1) + nd (k + 1) n ≤ n + 1
    split <;> omega
theorem dt_few {l : List Bool} {k : Nat} (h : k ≤ 15) : (dt 1 (l.take k)).length + 1 ≤ 140737488355328 := by
  have h1 := dt_len (l.take k) 1
  have h3 := nd_le (l.take k).length 1
  rw [List.length_take] at h3 h1
  omega

set_option maxHeartbeats 2000000 in
theorem hfix_any (x : Wd) (h0 : 0 < x.l.length) (hl : x.l.length ≤ 15) (hp : pf 1 x.l ≤ x.l.length) (w : World) (hx : Bits w x) :
    Calls Try.prog 25 #[x.v] w fun e w' => ∃ v, e = .returned (.tuple #[v, .int .i64 (pf 1 x.l : Nat)]) ∧ OwnB w w' v (dt 1 (fx x.l)) := by
  have c1 := clone_any x w hx h0 (by omega)
  obtain ⟨a, c, l⟩ := x
  simp only [Wd.v] at *
  obtain ⟨L, hL⟩ : ∃ L, L = fx l := ⟨_, rfl⟩
  obtain ⟨n, hn⟩ : ∃ n, l.length = n := ⟨_, rfl⟩
  obtain ⟨p, hpp⟩ : ∃ p, pf 1 l = p := ⟨_, rfl⟩
  have HL : Hid (L.length = n) := by show _ = _; rw [hL, fx_len, hn]
  have FX0 : Hid (p = 0 → L = l) := fun h => by rw [hL]; exact if_pos (by rw [hpp, h])
  have FX1 : Hid (p ≠ 0 → L = l.set (p - 1) (!(l.getD (p - 1) false))) := fun h => by rw [hL]; unfold fx; rw [hpp, if_neg h]
  have hc2 : Hid (∀ g cap rest W, RB W g l rest → l.length + rest.length = cap → cap ≤ maxLen → Calls Try.prog 31 #[.slice (some ⟨g, 0, none⟩) n cap] W fun e w' => e = .returned (.int .i64 (p : Nat)) ∧ Qt W w') := fun g cap rest W hr h1 h2 => by
    have := pointerOf_any ⟨some ⟨g, 0, none⟩, cap, l⟩ hl W (hr.bits h1 h2)
    simp only [Wd.v, hn, hpp] at this
    exact this
  have HN : Hid (l.length = n) := hn
  rw [← hL, hpp]
  rw [hn] at hl h0 hp c1 ⊢
  rw [hpp] at hp
  clear hL hpp hn hx
  go_enter Try.func25, Try.ntmps25
  go_wp2_with fail
  refine c1.mono ?_
  rintro e w1 ⟨v1, rfl, O1⟩
  clear c1
  obtain ⟨g, cap, rest, rfl, hg, hcap, hmax, hR1, hrest⟩ := O1.row (by rw [HN.out]; exact h0)
  have HE1 : Hid (Ext w w1) := O1.1
  have HR1 : Hid (RB w1 g l rest) := hR1
  have c2 := hc2.out g cap rest w1 hR1 hrest hmax
  rw [HN.out] at hcap
  have HRest : Hid (l.length + rest.length = cap) := hrest
  clear O1 hR1 hrest hc2
  rw [HN.out]
  unfold maxLen at hmax
  go_wp2_with fail
  refine c2.mono ?_
  rintro e w2 ⟨rfl, q2⟩
  clear c2
  have HE2 : Hid (Ext w w2) := HE1.out.trans q2.ext
  have HR2 : Hid (RB w2 g l rest) := Row.ext HR1.out q2.ext
  clear HE1 HR1 q2
  by_cases hp0 : p = 0
  · subst hp0
    obtain ⟨W3, hW3⟩ : ∃ W3, W3 = w2 := ⟨_, rfl⟩
    have HE3 : Hid (Ext w W3) := by show Ext _ _; rw [hW3]; exact HE2.out
    have HR : Hid (RB W3 g L rest) := by show RB _ _ _ _; rw [hW3, FX0.out rfl]; exact HR2.out
    rw [← hW3]
    clear hW3 FX0 FX1 HR2 HE2
    go_wp2
    obtain ⟨S, hS⟩ : ∃ S : Nat → List Bool, ∀ k, S k = dt 1 (L.take k) := ⟨_, fun _ => rfl⟩
    obtain ⟨B, hB⟩ : ∃ B : Nat → Bool, ∀ k, B k = L.getD k false := ⟨_, fun _ => rfl⟩
    have HC : Hid (∀ i, i < n → W3.cell? ⟨g, i, none⟩ = some (.bool (B i))) := fun i hi => by rw [hB]; exact HR.out.cell i (by rw [HL.out]; exact hi)
    have NX : Hid (∀ k, k < n → S (k + 1) = S k ++ (if isC (k + 1) then [] else [B k])) := fun k h => by rw [hS, hS, hB]; exact dt_take (by rw [HL.out]; exact h)
    have LE : Hid (∀ k, k ≤ 15 → (S k).length + 1 ≤ 140737488355328) := fun k h => by rw [hS]; exact dt_few h
    have HP : Hid (∀ (i : Nat) W, i < 15 → Calls Try.prog 30 #[.int .i64 ((i : Int) + 1)] W fun e w' => e = .returned (.bool (isC (i + 1))) ∧ w' = W) := fun i W h => isCheck_any i h W
    have Z0 : Hid (S 0 = []) := hS 0
    have ZN : Hid (dt 1 L = S n) := by show _ = _; rw [hS, ← HL.out, List.take_length]
    clear hS hB
    go_loopg [6, 27] n (fun gg s6 s27 wr => ∃ (k : Nat) (sv : Value), k ≤ n ∧ n - k ≤ gg ∧ s27 = .int .i64 k ∧ sv = s6 ∧ Aside (OwnB W3 wr sv (S k)))
    case atStart => exact ⟨0, _, Nat.zero_le _, by omega, rfl, rfl, by show OwnB _ _ _ _; rw [Z0.out]; exact OwnB.nil (Ext.refl _)⟩
    case round =>
      obtain ⟨k, u6, hk, hgg, rfl, rfl, X⟩ := hrel
      by_cases hlt : k < n
      · have hltz : (k : Int) < (n : Int) := by omega
        have e1 := X.out.1.cell (HC.out k hlt)
        have nx := NX.out k hlt
        have hfl : Hid ((S k).length + 1 ≤ 140737488355328) := LE.out k (by omega)
        have c1 := HP.out k wr (by omega)
        clear HC NX LE HP Z0
        cases hy : isC (k + 1)
        · rw [hy] at nx c1
          have nx' : Hid (S (k + 1) = S k ++ [B k]) := by show _ = _; rw [nx]; simp
          clear hy nx
          generalize B k = b1 at *
          go_wp2_with (first | (go_at_call 30; refine c1.mono ?_; rintro e w2 ⟨rfl, rfl⟩; clear c1) | (at_builtin; refine wpList_appendBit rfl _ _ rfl W3 _ u6 (by rfl) _ X.out b1 (by rfl) hfl.out ?_; intro v' w3 O3; have O3' : Hid (OwnB W3 w3 v' (S (k + 1))) := by (show OwnB _ _ _ _; rw [nx'.out]; exact O3)))
          go_roundg (n - (k + 1))
          case measure => omega
          case rel => exact ⟨k + 1, _, by omega, by omega, by go_num, rfl, O3'.out⟩
        · rw [hy] at nx c1
          have nx' : Hid (S (k + 1) = S k) := by show _ = _; rw [nx]; simp
          clear hy nx
          go_wp2_with fail
          refine c1.mono ?_
          rintro e w2 ⟨rfl, rfl⟩
          clear c1
          go_wp2
          go_roundg (n - (k + 1))
          case measure => omega
          case rel => exact ⟨k + 1, _, by omega, by omega, by go_num, rfl, by show OwnB _ _ _ _; rw [nx'.out]; exact X.out⟩
      · obtain rfl : k = n := by omega
        have hltz : ¬ (k : Int) < (k : Int) := by omega
        clear HC NX Z0 LE HP
        go_wp2
        go_ret2
        exact ⟨_, rfl, by rw [ZN.out]; exact OwnB.base HE3.out X.out⟩

  · have hi : p - 1 < n := by omega
    have e1 := HR2.out.cell (p - 1) (by rw [HN.out]; exact hi)
    have f1 := Row.fr HR2.out (p - 1)
    have HR : Hid (RB (w2.setCell ⟨g, p - 1, none⟩ (.bool (!(l.getD (p - 1) false)))) g L rest) := by
      show RB _ _ _ _
      rw [FX1.out hp0]
      exact HR2.out.set (p - 1) (by rw [HN.out]; exact hi) _
    have HE3 : Hid (Ext w (w2.setCell ⟨g, p - 1, none⟩ (.bool (!(l.getD (p - 1) false))))) := HE2.out.setCell hg _
    generalize l.getD (p - 1) false = b0 at *
    obtain ⟨q, rfl⟩ : ∃ q, p = q + 1 := ⟨p - 1, by omega⟩
    rw [Nat.add_sub_cancel] at *
    have hne : (((q + 1 : Nat) : Int) == 0) = false := beq_eq_false_iff_ne.2 (by omega)
    rw [Int.natCast_add] at *
    clear FX0 FX1 HR2 HE2 hp0
    obtain ⟨W3, hW3⟩ : ∃ W3, W3 = w2.setCell ⟨g, q, none⟩ (.bool (!b0)) := ⟨_, rfl⟩
    have hst : Hid (w2.setCell ⟨g, q, none⟩ (.bool (!b0)) = W3) := hW3.symm
    rw [← hW3] at HR HE3
    clear hW3
    go_wp2
    rw [hst.out]
    clear hst
    obtain ⟨S, hS⟩ : ∃ S : Nat → List Bool, ∀ k, S k = dt 1 (L.take k) := ⟨_, fun _ => rfl⟩
    obtain ⟨B, hB⟩ : ∃ B : Nat → Bool, ∀ k, B k = L.getD k false := ⟨_, fun _ => rfl⟩
    have HC : Hid (∀ i, i < n → W3.cell? ⟨g, i, none⟩ = some (.bool (B i))) := fun i hi => by rw [hB]; exact HR.out.cell i (by rw [HL.out]; exact hi)
    have NX : Hid (∀ k, k < n → S (k + 1) = S k ++ (if isC (k + 1) then [] else [B k])) := fun k h => by rw [hS, hS, hB]; exact dt_take (by rw [HL.out]; exact h)
    have LE : Hid (∀ k, k ≤ 15 → (S k).length + 1 ≤ 140737488355328) := fun k h => by rw [hS]; exact dt_few h
    have HP : Hid (∀ (i : Nat) W, i < 15 → Calls Try.prog 30 #[.int .i64 ((i : Int) + 1)] W fun e w' => e = .returned (.bool (isC (i + 1))) ∧ w' = W) := fun i W h => isCheck_any i h W
    have Z0 : Hid (S 0 = []) := hS 0
    have ZN : Hid (dt 1 L = S n) := by show _ = _; rw [hS, ← HL.out, List.take_length]
    clear hS hB
    go_loopg [6, 27] n (fun gg s6 s27 wr => ∃ (k : Nat) (sv : Value), k ≤ n ∧ n - k ≤ gg ∧ s27 = .int .i64 k ∧ sv = s6 ∧ Aside (OwnB W3 wr sv (S k)))
    case atStart => exact ⟨0, _, Nat.zero_le _, by omega, rfl, rfl, by show OwnB _ _ _ _; rw [Z0.out]; exact OwnB.nil (Ext.refl _)⟩
    case round =>
      obtain ⟨k, u6, hk, hgg, rfl, rfl, X⟩ := hrel
      by_cases hlt : k < n
      · have hltz : (k : Int) < (n : Int) := by omega
        have e1 := X.out.1.cell (HC.out k hlt)
        have nx := NX.out k hlt
        have hfl : Hid ((S k).length + 1 ≤ 140737488355328) := LE.out k (by omega)
        have c1 := HP.out k wr (by omega)
        clear HC NX LE HP Z0
        cases hy : isC (k + 1)
        · rw [hy] at nx c1
          have nx' : Hid (S (k + 1) = S k ++ [B k]) := by show _ = _; rw [nx]; simp
          clear hy nx
          generalize B k = b1 at *
          go_wp2_with (first | (go_at_call 30; refine c1.mono ?_; rintro e w2 ⟨rfl, rfl⟩; clear c1) | (at_builtin; refine wpList_appendBit rfl _ _ rfl W3 _ u6 (by rfl) _ X.out b1 (by rfl) hfl.out ?_; intro v' w3 O3; have O3' : Hid (OwnB W3 w3 v' (S (k + 1))) := by (show OwnB _ _ _ _; rw [nx'.out]; exact O3)))
          go_roundg (n - (k + 1))
          case measure => omega
          case rel => exact ⟨k + 1, _, by omega, by omega, by go_num, rfl, O3'.out⟩
        · rw [hy] at nx c1
          have nx' : Hid (S (k + 1) = S k) := by show _ = _; rw [nx]; simp
          clear hy nx
          go_wp2_with fail
          refine c1.mono ?_
          rintro e w2 ⟨rfl, rfl⟩
          clear c1
          go_wp2
          go_roundg (n - (k + 1))
          case measure => omega
          case rel => exact ⟨k + 1, _, by omega, by omega, by go_num, rfl, by show OwnB _ _ _ _; rw [nx'.out]; exact X.out⟩
      · obtain rfl : k = n := by omega
        have hltz : ¬ (k : Int) < (k : Int) := by omega
        clear HC NX Z0 LE HP
        go_wp2
        go_ret2
        exact ⟨_, rfl, by rw [ZN.out]; exact OwnB.base HE3.out X.out⟩


end Go.Proofs.Ytdplmaofapnhhaa
