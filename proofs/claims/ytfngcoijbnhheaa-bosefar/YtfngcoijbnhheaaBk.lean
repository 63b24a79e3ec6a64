/-
  (bose.turned).back, (bose.turned).count.
-/
import Derived.Test.YtfngcoijbnhheaaTb
namespace Go.Proofs.Ytfngcoijbnhheaa
open Go.RowKit
set_option linter.unusedVariables false

/-- A cell of an array that is a value. -/
theorem index_arr (L : List Value) (hL : L.length = 15) (k : Nat) (hk : k < 15) (b : Bool) (h : L[k]? = some (.bool b)) (w : World) :
    Sem.run Try.prog (Instr.index 41 (.agg L.toArray) (.int .i64 (k : Int))) w = .ok (.bool b) w := by
  obtain ⟨i0, hi, hz0, hz1, hz2⟩ := info_parts info4
  have h1 : (0 : Int) ≤ k ∧ (k : Int) < 15 := ⟨by omega, by omega⟩
  have hk' : k < L.length := by omega
  have u4 : Try.prog.underlying 4 = some .bool := by kernel_rfl
  simp [Instr.index, asIntOf, run_underlying under41, h1, sizeOf, typeInfo, hi, hz1, part, isAgg, run_underlying u4]
  rw [if_pos hk, h]; rfl

theorem count_any (t : List Bool) (ht : t.length = 15) (w : World) : Calls Try.prog 20 #[.agg (bv t).toArray] w fun e w' => e = .returned (.int .i64 (ct (fun i => t.getD i false) 15 : Nat)) ∧ Ext w w' := by
  have HR : Hid (Row (w.alloc (.cells (bv t).toArray 41)) w.heap.size 41 (bv t)) := row_new w _
  have HL : Hid ((bv t).length = 15) := by show _ = _; unfold bv; rw [List.length_map]; exact ht
  obtain ⟨S, hS⟩ : ∃ S : Nat → Nat, ∀ k, S k = ct (fun i => t.getD i false) k := ⟨_, fun _ => rfl⟩
  rw [← hS]
  obtain ⟨F, hF⟩ : ∃ F : Nat → Bool, ∀ k, F k = t.getD k false := ⟨_, fun _ => rfl⟩
  have S0 : Hid (S 0 = 0) := by show _ = _; rw [hS]; rfl
  have SN : Hid (∀ k, S (k + 1) = S k + (if F k then 1 else 0)) := fun k => by rw [hS, hS, hF]; rfl
  have SL : Hid (∀ k, S k ≤ k) := fun k => by rw [hS]; exact ct_le _ k
  have HC : Hid (∀ k, k < 15 → (bv t)[k]? = some (.bool (F k))) := fun k hk => by
    rw [hF]
    have : k < t.length := by omega
    simp [List.getD_eq_getElem?_getD, this]
  clear hS hF ht
  generalize hb : bv t = L at *
  clear hb
  go_enter Try.func20, Try.ntmps20
  go_wp2_with (refine wpList_loadA rfl _ (by rfl) w.heap.size (by rfl) L HR.out HL.out ?_)
  go_loopg [3, 7] 15 (fun gg s3 s7 wr => ∃ k : Nat, k ≤ 15 ∧ 15 - k ≤ gg ∧ s7 = .int .i64 k ∧ s3 = .int .i64 (S k : Nat) ∧ Aside (Ext w wr))
  case atStart => exact ⟨0, by omega, by omega, rfl, by rw [S0.out]; rfl, (Ext.refl w).alloc _⟩
  case round =>
    obtain ⟨k, hk, hgg, rfl, rfl, E⟩ := hrel
    by_cases hlt : k < 15
    · have hltz : (k : Int) < 15 := by omega
      have e1 := HC.out k hlt
      have sn := SN.out k
      have sl := SL.out k
      have E' : Hid (Ext w wr) := E.out
      have hix : ∀ W, Sem.run Try.prog (Instr.index 41 (.agg L.toArray) (.int .i64 (k : Int))) W = .ok (.bool (F k)) W := fun W => index_arr L HL.out k hlt (F k) e1 W
      clear e1
      clear HC SN SL S0 E HR HL
      generalize S k = s at *
      generalize F k = u at *
      have SN' : Hid (S (k + 1) = s + (if u = true then 1 else 0)) := sn
      clear sn
      cases u
      all_goals
        go_wp2
        go_roundg (15 - (k + 1))
        case measure => omega
        case rel => exact ⟨k + 1, by omega, by omega, by go_num, by rw [SN'.out]; first | rfl | go_num, E'.out⟩
    · obtain rfl : k = 15 := by omega
      have hltz : ¬ (15 : Int) < 15 := by omega
      have E' : Hid (Ext w wr) := E.out
      clear HC SN SL S0 E HR HL
      go_wp2
      go_ret
      exact ⟨rfl, E'.out⟩

theorem ext_drew (w : World) : Ext w w.drew := (Ext.refl w).drewN 1

set_option maxHeartbeats 2000000 in
theorem back_any (t : List Bool) (ht : t.length = 15) (x : Wd) (hl : x.l.length = 15) (w : World) (hx : Bits w x) :
    Calls Try.prog 19 #[.agg (bv t).toArray, x.v] w fun e w' => ∃ d : Wd, e = .returned d.v ∧ d.l = bl (fun i => x.l.getD i false != t.getD i false) 7 ∧ Bits w' d ∧ Ext w w' := by
  obtain ⟨a, c, l⟩ := x
  obtain ⟨h1, h2, _, b, o, h4, h5⟩ := hx
  simp only at h1 h2 h4 h5 hl
  simp only [Wd.v]
  rw [hl] at *
  obtain rfl := h4 (by omega)
  unfold maxLen at h2
  obtain ⟨X, hX⟩ : ∃ X : Nat → Bool, ∀ i, X i = l.getD i false := ⟨_, fun _ => rfl⟩
  obtain ⟨Y, hY⟩ : ∃ Y : Nat → Bool, ∀ i, Y i = t.getD i false := ⟨_, fun _ => rfl⟩
  obtain ⟨F, hF⟩ : ∃ F : Nat → Nat → Bool, ∀ k j, F k j = if j < k then X j != Y j else false := ⟨_, fun _ _ => rfl⟩
  have FE : Hid (bl (F 7) 7 = bl (fun i => l.getD i false != t.getD i false) 7) := by
    show _ = _
    refine bl_congr (fun i hi => ?_)
    rw [hF, if_pos hi, hX, hY]
  have FN : Hid (∀ k j, F (k + 1) j = if j = k then X k != Y k else F k j) := fun k j => by
    rw [hF, hF]
    by_cases h : j = k
    · rw [if_pos h, if_pos (by omega), h]
    · rw [if_neg h]
      by_cases h' : j < k
      · rw [if_pos h', if_pos (by omega)]
      · rw [if_neg h', if_neg (by omega)]
  have F0 : Hid (∀ j, j < 7 → Value.bool (F 0 j) = .bool false) := fun j _ => by rw [hF]; rfl
  have HX : Hid (∀ i, i < 15 → w.cell? ⟨b, o + i, none⟩ = some (.bool (X i))) := fun i hi => by rw [hX]; exact h5 i hi
  have HR : Hid (Row (w.alloc (.cells (bv t).toArray 41)) w.heap.size 41 (bv t)) := row_new w _
  have HB : Hid ((bv t).length = 15) := by show _ = _; unfold bv; rw [List.length_map]; exact ht
  have HY : Hid (∀ k, k < 15 → (bv t)[k]? = some (.bool (Y k))) := fun k hk => by
    rw [hY]
    have : k < t.length := by omega
    simp [List.getD_eq_getElem?_getD, this]
  rw [← FE.out]
  clear hF hX hY FE h5 h4
  generalize hb : bv t = L at *
  clear hb
  have hmk : ∀ w : World, Sem.run Try.prog (Instr.makeSlice 22 (.int .i64 7) (.int .i64 7)) w = .ok (.slice (some ⟨w.heap.size, 0, none⟩) 7 7) (w.alloc (.cells (madeCells #[.bool false] 7) 4)) := run_make_row' (P := Try.prog) 22 4 (.bool false) 1 Try.underlying22 info4 rfl .i64 .i64 7 (by omega) (by omega)
  have R2 : Hid (Row ((w.alloc (.cells L.toArray 41)).alloc (.cells (madeCells #[.bool false] 7) 4)) (w.heap.size + 1) 4 (bf (F 0) 7)) := by
    have := Row.madeF (w.alloc (.cells L.toArray 41)) 4 (.bool false) 7 _ F0.out
    rw [World.size_alloc] at this
    exact this
  have R1 : Hid (Row ((w.alloc (.cells L.toArray 41)).alloc (.cells (madeCells #[.bool false] 7) 4)) w.heap.size 41 L) := HR.out.ext ((Ext.refl _).alloc _)
  have E2 : Hid (Ext w ((w.alloc (.cells L.toArray 41)).alloc (.cells (madeCells #[.bool false] 7) 4))) := ((Ext.refl w).alloc _).alloc _
  clear HR
  go_enter Try.func19, Try.ntmps19
  go_wp2
  clear hmk F0
  obtain ⟨B, hB⟩ : ∃ B, w.heap.size + 1 = B := ⟨_, rfl⟩
  have HBB : Hid (w.heap.size ≤ B) := by show _ ≤ _; omega
  rw [hB] at R2 ⊢
  go_loopg [10] 7 (fun gg s10 wr => ∃ k : Nat, k ≤ 7 ∧ 7 - k ≤ gg ∧ s10 = .int .i64 k ∧ Aside (Ext w wr) ∧ Aside (Row wr w.heap.size 41 L) ∧ Aside (Row wr B 4 (bf (F k) 7)))
  case atStart => exact ⟨0, by omega, by omega, rfl, E2.out, R1.out, R2.out⟩
  case round =>
    obtain ⟨k, hk, hgg, rfl, E, P1, P2⟩ := hrel
    clear E2 R1 R2
    by_cases hlt : k < 7
    · have hltz : (k : Int) < 7 := by omega
      have hlt2 : (k : Int) < 15 := by omega
      have c1 := E.out.cell (HX.out k (by omega))
      have c2 : wr.cell? ⟨w.heap.size, k, none⟩ = some (.bool (Y k)) := by
        have := P1.out.cell k (by rw [HB.out]; omega)
        rw [this, ← List.getElem?_eq_getElem]
        exact HY.out k (by omega)
      have c3 := P2.out.cellF k hlt
      have f3 := P2.out.fr k
      have nP2 : Hid (Row (wr.setCell ⟨B, k, none⟩ (.bool (X k != Y k))) B 4 (bf (F (k + 1)) 7)) := P2.out.setF _ _ (fun j hj => by
        show Value.bool _ = _
        rw [FN.out k j]
        by_cases e : j = k
        · rw [if_pos e, if_pos e]
        · rw [if_neg e, if_neg e])
      have nE : Hid (Ext w (wr.setCell ⟨B, k, none⟩ (.bool (X k != Y k)))) := E.out.setCell HBB.out _
      have nP1 : Hid (Row (wr.setCell ⟨B, k, none⟩ (.bool (X k != Y k))) w.heap.size 41 L) := P1.out.other _ (by show B ≠ w.heap.size; omega) _
      clear FN HX HY P1 P2 E
      generalize F k k = u0 at *
      generalize X k = u1 at *
      generalize Y k = u2 at *
      go_wp2
      go_region
      go_wp2
      go_roundg (7 - (k + 1))
      case measure => omega
      case rel => exact ⟨k + 1, by omega, by omega, by go_num, nE.out.trans (ext_drew _), nP1.out.ext (ext_drew _), nP2.out.ext (ext_drew _)⟩
    · obtain rfl : k = 7 := by omega
      have hltz : ¬ (7 : Int) < 7 := by omega
      have O : Hid (Bits wr ⟨some ⟨B, 0, none⟩, 7, bl (F 7) 7⟩) := by
        have h := P2.out
        rw [bf_bv] at h
        have := h.bits (by rw [bl_len]; unfold maxLen; omega)
        rw [bl_len] at this
        exact this
      have E' : Hid (Ext w wr) := E.out
      clear FN HX HY P1 P2 E
      go_wp2
      go_ret
      exact ⟨⟨some ⟨B, 0, none⟩, 7, bl (F 7) 7⟩, by show _ = Ending.returned (Value.slice _ (bl (F 7) 7).length 7); rw [bl_len]; rfl, rfl, O.out, E'.out⟩

end Go.Proofs.Ytfngcoijbnhheaa
