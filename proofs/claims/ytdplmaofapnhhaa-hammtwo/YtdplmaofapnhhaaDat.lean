/-
  slices.Clone of bits, quipuref.Data.
-/
import Derived.Test.YtdplmaofapnhhaaOw
import Derived.Test.YtdplmaofapnhhaaRef
namespace Go.Proofs.Ytdplmaofapnhhaa
open Go.RowKit
set_option linter.unusedVariables false

theorem clone_any (x : Wd) (w : World) (hx : Bits w x) (h0 : 0 < x.l.length) (hl : x.l.length ≤ 1000) : Calls Try.prog 32 #[x.v] w fun e w' => ∃ v, e = .returned v ∧ OwnB w w' v x.l := by
  obtain ⟨p, hv⟩ := hx.some h0
  have HX : Hid (Bits (w.alloc (.cells #[] 4)) x) := hx.ext ((Ext.refl w).alloc _)
  have ho : Hid (OwnB w (w.alloc (.cells #[] 4)) (.slice (some ⟨w.heap.size, 0, none⟩) 0 0) []) := OwnB.empty w
  have HB : Hid (([] : List Bool).length + x.l.length ≤ 140737488355328) := by show _ ≤ _; rw [List.length_nil]; omega
  have hm1 := hx.1
  have hm2 := hx.2.1
  unfold maxLen at hm2
  obtain ⟨n, hn⟩ : ∃ n, x.l.length = n := ⟨_, rfl⟩
  obtain ⟨c, hc⟩ : ∃ c, x.c = c := ⟨_, rfl⟩
  rw [hn, hc] at hv hm1
  rw [hn] at hl h0
  rw [hc] at hm2
  have HV : Hid (x.v = .slice (some p) n c) := hv
  rw [hv]
  clear hv hx hn hc
  have he : ∀ w : World, (binOp .eql 22 (.slice (some p) n c) (.slice none 0 0)).run Try.prog w = .ok (.bool false) w := fun _ => rfl
  go_enter Try.func32, Try.ntmps32
  go_wp2_with (at_builtin; refine wpList_appendBits rfl _ _ rfl w _ _ (by rfl) [] ho.out x (by exact HV.out.symm) HX.out HB.out ?_; intro v' w1 B; rw [List.nil_append] at B)
  go_ret
  exact ⟨_, rfl, B⟩

/-- quipuref.Data. -/
theorem data_any (x : Wd) (hl : x.l.length ≤ 15) (w : World) (hx : Bits w x) : Calls Try.prog 26 #[x.v] w fun e w' => ∃ v, e = .returned v ∧ OwnB w w' v (dt 1 x.l) := by
  obtain ⟨a, c, l⟩ := x
  obtain ⟨h1, h2, _, b, o, h4, h5⟩ := hx
  simp only at h1 h2 h4 h5 hl
  simp only [Wd.v]
  obtain ⟨S, hS⟩ : ∃ S : Nat → List Bool, ∀ k, S k = dt 1 (l.take k) := ⟨_, fun _ => rfl⟩
  obtain ⟨B, hB⟩ : ∃ B : Nat → Bool, ∀ k, B k = l.getD k false := ⟨_, fun _ => rfl⟩
  have HC : Hid (∀ i, i < l.length → w.cell? ⟨b, o + i, none⟩ = some (.bool (B i))) := fun i hi => by rw [hB]; exact h5 i hi
  have NX : Hid (∀ k, k < l.length → S (k + 1) = S k ++ (if isC (k + 1) then [] else [B k])) := fun k h => by rw [hS, hS, hB]; exact dt_take h
  have LE : Hid (∀ k, k ≤ 15 → (S k).length + 1 ≤ 140737488355328) := fun k h => by
    rw [hS]
    have h1 := dt_len (l.take k) 1
    have h2 : ∀ n k, nd k n ≤ n := by
      intro n
      induction n with
      | zero => intro k; exact Nat.le_refl 0
      | succ n ih =>
        intro k
        have := ih (k + 1)
        show (if isC k then 0 else 1) + nd (k + 1) n ≤ n + 1
        split <;> omega
    have h3 := h2 (l.take k).length 1
    rw [List.length_take] at h3 h1
    omega
  have HP : Hid (∀ (i : Nat) W, i < 15 → Calls Try.prog 21 #[.int .i64 ((i : Int) + 1)] W fun e w' => e = .returned (.bool (isC (i + 1))) ∧ w' = W) := fun i W h => power_any i h W
  have Z0 : Hid (S 0 = []) := hS 0
  have ZN : dt 1 l = S l.length := by rw [hS, List.take_length]
  rw [ZN]
  clear h5 ZN hS hB
  generalize l.length = m at *
  go_enter Try.func26, Try.ntmps26
  go_wp2
  go_loopg [3, 4] m (fun gg s3 s4 wr => ∃ (k : Nat) (sv : Value), k ≤ m ∧ m - k ≤ gg ∧ s4 = .int .i64 k ∧ sv = s3 ∧ Aside (OwnB w wr sv (S k)))
  case atStart => exact ⟨0, _, Nat.zero_le _, by omega, rfl, rfl, by show OwnB _ _ _ _; rw [Z0.out]; exact OwnB.nil (Ext.refl _)⟩
  case round =>
    obtain ⟨k, u3, hk, hgg, rfl, rfl, X⟩ := hrel
    by_cases hlt : k < m
    · have hltz : (k : Int) < (m : Int) := by omega
      obtain rfl := h4 (by omega)
      have e1 := X.out.1.cell (HC.out k hlt)
      have nx := NX.out k hlt
      have hfl : Hid ((S k).length + 1 ≤ 140737488355328) := LE.out k (by omega)
      have c1 := HP.out k wr (by omega)
      clear HC NX LE HP Z0 h4
      cases hy : isC (k + 1)
      · rw [hy] at nx c1
        have nx' : Hid (S (k + 1) = S k ++ [B k]) := by show _ = _; rw [nx]; simp
        clear hy nx
        generalize B k = b1 at *
        go_wp2_with (first | (go_at_call 21; refine c1.mono ?_; rintro e w2 ⟨rfl, rfl⟩; clear c1) | (at_builtin; refine wpList_appendBit rfl _ _ rfl w _ u3 (by rfl) _ X.out b1 (by rfl) hfl.out ?_; intro v' w3 O3; have O3' : Hid (OwnB w w3 v' (S (k + 1))) := by (show OwnB _ _ _ _; rw [nx'.out]; exact O3)))
        go_roundg (m - (k + 1))
        case measure => omega
        case rel => exact ⟨k + 1, _, by omega, by omega, by go_num, rfl, O3'.out⟩
      · rw [hy] at nx c1
        have nx' : Hid (S (k + 1) = S k) := by show _ = _; rw [nx]; simp
        clear hy nx
        go_wp2_with fail
        refine c1.mono ?_
        rintro e w2 ⟨rfl, rfl⟩
        clear c1
        go_wp2
        go_roundg (m - (k + 1))
        case measure => omega
        case rel => exact ⟨k + 1, _, by omega, by omega, by go_num, rfl, by show OwnB _ _ _ _; rw [nx'.out]; exact X.out⟩
    · obtain rfl : k = m := by omega
      have hltz : ¬ (k : Int) < (k : Int) := by omega
      clear HC NX Z0 LE HP
      go_wp2
      go_ret
      exact ⟨_, rfl, X.out⟩

end Go.Proofs.Ytdplmaofapnhhaa
