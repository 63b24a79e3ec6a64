/-
  stuff.flag, quipuref.Flag, Stuffed, Bared; stuff.flagIn.
-/
import Derived.Test.YtglajpmifhecgaaFa
import Derived.Test.YtglajpmifhecgaaFun
import Derived.Test.YtglajpmifhecgaaSl
namespace Go.Proofs.Ytglajpmifhecgaa
open Go.RowKit
set_option linter.unusedVariables false

theorem flag_any (w : World) : Calls Try.prog 23 #[] w fun e w' => ∃ v, e = .returned v ∧ OwnB w w' v fl := by
  go_enter Try.func23, Try.ntmps23
  go_wp2
  go_ret
  exact ⟨_, rfl, OwnB.of_row (cap := 8) (l := fl) (rest := []) ((Ext.refl w).alloc _) (Nat.le_refl _) (heap_alloc_new w _) rfl (by unfold maxLen; omega)⟩
theorem refFlag_any (w : World) : Calls Try.prog 25 #[] w fun e w' => ∃ v, e = .returned v ∧ OwnB w w' v fl := by
  go_enter Try.func25, Try.ntmps25
  go_wp2
  go_ret
  exact ⟨_, rfl, OwnB.of_row (cap := 8) (l := fl) (rest := []) ((Ext.refl w).alloc _) (Nat.le_refl _) (heap_alloc_new w _) rfl (by unfold maxLen; omega)⟩

/-- How many set ones stand one behind the other at the end of the first so many. -/
def cnt (l : List Bool) : Nat → Nat
  | 0 => 0
  | k + 1 => if l.getD k false then cnt l k + 1 else 0
theorem cnt_le (l : List Bool) : ∀ k, cnt l k ≤ k
  | 0 => Nat.le_refl _
  | k + 1 => by
    have := cnt_le l k
    show (if l.getD k false then cnt l k + 1 else 0) ≤ k + 1
    split <;> omega
theorem lr_cnt (l : List Bool) (k : Nat) : lr (cnt l k % 5) (l.getD k false) = if cnt l (k + 1) % 5 = 0 ∧ 0 < cnt l (k + 1) then 5 else cnt l (k + 1) % 5 := by
  show _ = if (if _ then _ else _) % 5 = 0 ∧ 0 < (if _ then _ else _) then 5 else (if _ then _ else _) % 5
  cases l.getD k false
  · rfl
  · show cnt l k % 5 + 1 = if (cnt l k + 1) % 5 = 0 ∧ 0 < cnt l k + 1 then 5 else (cnt l k + 1) % 5
    split <;> omega

set_option maxHeartbeats 2000000 in
/-- quipuref.Stuffed. -/
theorem refStuffed_any (x : Wd) (hl : x.l.length ≤ 10000) (w : World) (hx : Bits w x) : Calls Try.prog 11 #[x.v] w fun e w' => ∃ v, e = .returned v ∧ OwnB w w' v (sf 0 x.l) := by
  obtain ⟨a, c, l⟩ := x
  obtain ⟨h1, h2, _, b, o, h4, h5⟩ := hx
  simp only at h1 h2 h4 h5 hl ⊢
  simp only [Wd.v]
  obtain ⟨B, hB⟩ : ∃ B : Nat → Bool, ∀ k, B k = l.getD k false := ⟨_, fun _ => rfl⟩
  obtain ⟨C, hC⟩ : ∃ C : Nat → Nat, ∀ k, C k = cnt l k := ⟨_, fun _ => rfl⟩
  obtain ⟨R, hR⟩ : ∃ R : Nat → List Bool → Prop, ∀ k L, R k L ↔ L ++ sf (cnt l k % 5) (l.drop k) = sf 0 l := ⟨_, fun _ _ => Iff.rfl⟩
  have HC : Hid (∀ i, i < l.length → w.cell? ⟨b, o + i, none⟩ = some (.bool (B i))) := fun i hi => by rw [hB]; exact h5 i hi
  have CT : Hid (∀ k, B k = true → C (k + 1) = C k + 1) := fun k h => by
    rw [hB] at h
    rw [hC, hC]
    show (if _ then _ else _) = _
    rw [if_pos h]
  have CF : Hid (∀ k, B k = false → C (k + 1) = 0) := fun k h => by
    rw [hB] at h
    rw [hC]
    show (if _ then _ else _) = _
    rw [h]; rfl
  have C0 : Hid (C 0 = 0) := hC 0
  have CL : Hid (∀ k, C k ≤ k) := fun k => by rw [hC]; exact cnt_le l k
  have LN : Hid (∀ k L, R k L → L.length ≤ 20001) := fun k L h => by
    have h2 := congrArg List.length ((hR _ _).1 h)
    have h3 := sf_len l 0
    rw [List.length_append] at h2
    omega
  have NX : Hid (∀ k L, R k L → k < l.length → ¬ (C (k + 1) % 5 = 0 ∧ 0 < C (k + 1)) → R (k + 1) (L ++ [B k])) := fun k L h hk h5 => by
    rw [hR] at h ⊢
    rw [hC] at h5
    rw [drop_at hk, sf_low (Nat.mod_lt _ (by omega)), lr_cnt, if_neg h5, ← hB] at h
    rw [List.append_assoc]
    exact h
  have NF : Hid (∀ k L, R k L → k < l.length → C (k + 1) % 5 = 0 → 0 < C (k + 1) → R (k + 1) (L ++ [B k] ++ [false])) := fun k L h hk h5 h6 => by
    rw [hR] at h ⊢
    rw [hC] at h5 h6
    rw [drop_at hk, sf_low (Nat.mod_lt _ (by omega)), lr_cnt, if_pos ⟨h5, h6⟩, ← hB, sf_owed (Nat.le_refl _)] at h
    rw [List.append_assoc, List.append_assoc, h5]
    exact h
  have Z0 : Hid (R 0 []) := by
    show R 0 []
    rw [hR]
    rfl
  have ZN : Hid (∀ L, R l.length L → L = sf 0 l) := fun L h => by
    rw [hR, List.drop_length, sf_nil (Nat.mod_lt _ (by omega)), List.append_nil] at h
    exact h
  clear h5 hB hR hC
  generalize sf 0 l = T at *
  generalize l.length = n at *
  unfold maxLen at h2
  go_enter Try.func11, Try.ntmps11
  go_wp2
  go_loopg [3, 4, 5, 6, 7, 10] n (fun gg s3 _ _ _ _ s10 wr => ∃ (k : Nat) (L : List Bool) (sv : Value), k ≤ n ∧ n - k ≤ gg ∧ s10 = .int .i64 k ∧ sv = s3 ∧ Hid (R k L) ∧ Aside (OwnB w wr sv L))
  case atStart => exact ⟨0, [], _, Nat.zero_le _, by omega, rfl, rfl, Z0.out, OwnB.nil (Ext.refl _)⟩
  case round =>
    obtain ⟨k, L, s3, hk, hgg, rfl, rfl, HR, OO⟩ := hrel
    by_cases hlt : k < n
    · have hltz : (k : Int) < (n : Int) := by omega
      obtain rfl := h4 (by omega)
      have O1 : Hid (OwnB w wr s3 L) := OO.out
      have e1 := O1.out.1.cell (HC.out k hlt)
      have hfl : Hid (L.length + 1 ≤ 140737488355328) := by have := LN.out k L HR.out; show _ ≤ _; omega
      have hfl2 : Hid ((L ++ [B k]).length + 1 ≤ 140737488355328) := by have := LN.out k L HR.out; show _ ≤ _; rw [List.length_append, List.length_singleton]; omega
      have nx : Hid (¬ (C (k + 1) % 5 = 0 ∧ 0 < C (k + 1)) → R (k + 1) (L ++ [B k])) := NX.out k L HR.out hlt
      have nf : Hid (C (k + 1) % 5 = 0 → 0 < C (k + 1) → R (k + 1) (L ++ [B k] ++ [false])) := NF.out k L HR.out hlt
      clear OO LN NX NF Z0 ZN HR
      obtain ⟨q, hq⟩ : ∃ q, B k = q := ⟨_, rfl⟩
      rw [hq] at e1 hfl2 nx nf
      clear hq
      go_wp2_with (at_builtin; refine wpList_appendBit rfl _ _ rfl w wr s3 (by rfl) L O1.out q (by rfl) hfl.out ?_; intro v2 w2 O2)
      have O2' : Hid (OwnB w w2 v2 (L ++ [q])) := O2
      clear O2 O1 e1
      go_loopg [6, 7] (k + 1) (fun gg s6 s7 wr2 => wr2 = w2 ∧ ∃ q : Nat, q ≤ k + 1 ∧ k + 1 - q ≤ gg ∧ s6 = .int .i64 q ∧ s7 = .int .i64 ((k : Int) - (q : Int)) ∧ Aside (C (k + 1) = q + C (k + 1 - q)))
      case atStart => exact ⟨rfl, 0, by omega, by omega, rfl, by go_num, by show _ = _; rw [Nat.sub_zero, Nat.zero_add]⟩
      case round =>
        obtain ⟨rfl, j, hj, hgj, rfl, rfl, IN⟩ := hrel
        have IN' : Hid (C (k + 1) = j + C (k + 1 - j)) := IN.out
        clear IN
        by_cases hjk : j ≤ k
        · have hge : (k : Int) - (j : Int) ≥ 0 := by omega
          have hkj : (k : Int) - (j : Int) = ((k - j : Nat) : Int) := by omega
          have e2 := O2'.out.1.cell (HC.out (k - j) (by omega))
          have hkj2 : k + 1 - j = k - j + 1 := by omega
          rw [hkj2] at IN'
          have ct := CT.out (k - j)
          have cf := CF.out (k - j)
          have IY : Hid (B (k - j) = true → C (k + 1) = j + 1 + C (k + 1 - (j + 1))) := fun h => by
            rw [IN'.out, ct h, show k + 1 - (j + 1) = k - j by omega]; omega
          have IZ : Hid (B (k - j) = false → C (k + 1) = j) := fun h => by rw [IN'.out, cf h]; rfl
          clear IN' ct cf CT CF C0 CL
          rw [hkj]
          generalize B (k - j) = p at *
          cases p
          · have IZ' : C (k + 1) = j := IZ.out rfl
            clear IZ IY HC
            by_cases hz : j = 0
            · have NX' : Hid (R (k + 1) (L ++ [q])) := nx.out (by omega)
              have hzz : ¬ (j : Int) > 0 := by omega
              have hjl : j ≤ k + 1 := by omega
              clear nx nf hz
              go_wp2
              go_roundg (n - (k + 1))
              case measure => omega
              case rel => exact ⟨k + 1, _, _, by omega, by omega, by go_num, rfl, NX'.out, O2'.out⟩
            · have hzz : (j : Int) > 0 := by omega
              have tm : Int.tmod (j : Int) 5 = ((j % 5 : Nat) : Int) := (Int.ofNat_tmod j 5).symm
              by_cases h5 : j % 5 = 0
              · have NX' : Hid (R (k + 1) (L ++ [q] ++ [false])) := nf.out (by omega) (by omega)
                rw [h5] at tm
                clear nx nf
                go_wp2_with (at_builtin; refine wpList_appendBit rfl _ _ rfl w wr v2 (by rfl) (L ++ [q]) O2'.out false (by rfl) hfl2.out ?_; intro v4 w4 O4)
                have O4' : Hid (OwnB w w4 v4 (L ++ [q] ++ [false])) := O4
                clear O4
                go_wp2
                go_roundg (n - (k + 1))
                case measure => omega
                case rel => exact ⟨k + 1, _, _, by omega, by omega, by go_num, rfl, NX'.out, O4'.out⟩
              · have NX' : Hid (R (k + 1) (L ++ [q])) := nx.out (by omega)
                generalize j % 5 = j5 at *
                have h5z : ((j5 : Int) == 0) = false := by rw [beq_eq_false_iff_ne]; omega
                clear nx nf
                go_wp2
                go_roundg (n - (k + 1))
                case measure => omega
                case rel => exact ⟨k + 1, _, _, by omega, by omega, by go_num, rfl, NX'.out, O2'.out⟩
          · have IY' : Hid (C (k + 1) = j + 1 + C (k + 1 - (j + 1))) := IY.out rfl
            clear IZ IY HC
            go_wp2
            go_roundg (k + 1 - (j + 1))
            case measure => omega
            case rel => exact ⟨rfl, j + 1, by omega, by omega, by go_num, by go_num, IY'.out⟩
        · have hj1 : j = k + 1 := by omega
          have hge : ¬ (k : Int) - (j : Int) ≥ 0 := by omega
          rw [show k + 1 - j = 0 by omega, C0.out] at IN'
          have IZ' : C (k + 1) = j := IN'.out
          have hzz : (j : Int) > 0 := by omega
          have tm : Int.tmod (j : Int) 5 = ((j % 5 : Nat) : Int) := (Int.ofNat_tmod j 5).symm
          clear IN' CT CF C0 CL HC hj1
          by_cases h5 : j % 5 = 0
          · have NX' : Hid (R (k + 1) (L ++ [q] ++ [false])) := nf.out (by omega) (by omega)
            rw [h5] at tm
            clear nx nf
            go_wp2_with (at_builtin; refine wpList_appendBit rfl _ _ rfl w wr v2 (by rfl) (L ++ [q]) O2'.out false (by rfl) hfl2.out ?_; intro v4 w4 O4)
            have O4' : Hid (OwnB w w4 v4 (L ++ [q] ++ [false])) := O4
            clear O4
            go_wp2
            go_roundg (n - (k + 1))
            case measure => omega
            case rel => exact ⟨k + 1, _, _, by omega, by omega, by go_num, rfl, NX'.out, O4'.out⟩
          · have NX' : Hid (R (k + 1) (L ++ [q])) := nx.out (by omega)
            generalize j % 5 = j5 at *
            have h5z : ((j5 : Int) == 0) = false := by rw [beq_eq_false_iff_ne]; omega
            clear nx nf
            go_wp2
            go_roundg (n - (k + 1))
            case measure => omega
            case rel => exact ⟨k + 1, _, _, by omega, by omega, by go_num, rfl, NX'.out, O2'.out⟩
    · obtain rfl : k = n := by omega
      have e := ZN.out L HR.out
      subst e
      clear HC LN NX NF Z0 ZN HR CT CF C0 CL
      go_wp2
      go_ret
      exact ⟨s3, rfl, OO.out⟩
end Go.Proofs.Ytglajpmifhecgaa
