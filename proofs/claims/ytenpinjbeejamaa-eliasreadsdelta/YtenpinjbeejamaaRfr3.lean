/-
  quipuref.ReadGamma, as ReadDelta: the document's number that bits begin with.
-/
import Derived.Test.YtenpinjbeejamaaRfr
import Derived.Test.YtenpinjbeejamaaOpen
namespace Go.Proofs.Ytenpinjbeejamaa
open Go.RowKit

theorem OwnB.one (w : World) : OwnB w (w.alloc (.cells #[.bool true] 4)) (.slice (some ⟨w.heap.size, 0, none⟩) 1 1) [true] :=
  ⟨(Ext.refl w).alloc _, by simp, .inr ⟨w.heap.size, 1, #[.bool true], rfl, Nat.le_refl _, heap_alloc_new w _, by simp, by unfold maxLen; omega, rfl, rfl⟩⟩

/-- The size that Delta's bits begin with, where few zeros come first. -/
theorem sz_fine (l : List Bool) (h4 : zr l ≤ 4) (h : 2 * zr l + 1 ≤ l.length) :
    1 ≤ vn 0 ((l.drop (zr l)).take (zr l + 1)) ∧ vn 0 ((l.drop (zr l)).take (zr l + 1)) ≤ 31 ∧ rdD l = rd l (2 * zr l + 1) (vn 0 ((l.drop (zr l)).take (zr l + 1)) - 1) := by
  have e := vn_zr l (by omega)
  have a1 := vn_lt ((l.drop (zr l)).take (zr l + 1)) 0
  have a2 : 2 ^ ((l.drop (zr l)).take (zr l + 1)).length ≤ 2 ^ 5 := Nat.pow_le_pow_right (by omega) (by simp; omega)
  have a3 := vn_le 1 ((l.drop (zr l + 1)).take (zr l))
  refine ⟨by omega, by omega, ?_⟩
  have hg := rdG_fine l (by omega) (by omega)
  rw [rdD_some' l _ _ hg, show zr l + (zr l + 1) = 2 * zr l + 1 by omega]

set_option maxHeartbeats 4000000 in
theorem refReadDelta_any (x : Wd) (w : World) (hx : Bits w x) (hlen : x.l.length ≤ 140737488355328) : Calls Try.prog 15 #[x.v, .bool true] w fun e w' => e = .returned (rw2 (rdD x.l)) ∧ Ext w w' := by
  obtain ⟨xa, xc, xl⟩ := x
  obtain ⟨h1, h2, _, b, o, h3, h4⟩ := hx
  simp only [Wd.v] at *
  unfold maxLen at h2
  have hzl := zr_le xl
  have HZ : Hid (∀ k, k < xl.length → (∀ i, i < k → xl.getD i false = false) → xl.getD k false = true → zr xl = k) := fun k => zr_at xl k
  have HZ0 : Hid ((∀ i, i < xl.length → xl.getD i false = false) → zr xl = xl.length) := zr_none xl
  have F1 : Hid (4 < zr xl → rdD xl = none) := rdD_zeros xl
  have F2 : Hid (xl.length < 2 * zr xl + 1 → rdD xl = none) := fun h => rdD_none xl (rdG_short xl (by omega))
  have HNU : Hid (zr xl ≤ 4 → 2 * zr xl + 1 ≤ xl.length → Calls Try.prog 24 #[.slice (some ⟨b, o + zr xl, none⟩) (2 * zr xl + 1 - zr xl) (xc - zr xl)] w fun e w' => e = .returned (.int .i64 (vn 0 ((xl.drop (zr xl)).take (zr xl + 1)) : Nat)) ∧ w' = w) := by
    intro g1 g2
    rw [show 2 * zr xl + 1 - zr xl = zr xl + 1 by omega]
    have hs := Bits.sub h1 h2 h4 (zr xl) (zr xl + 1) (by omega)
    have hl : ((xl.drop (zr xl)).take (zr xl + 1)).length = zr xl + 1 := by simp; omega
    have hnn := number_any _ w hs (by simp only; rw [hl]; omega)
    simp only [Wd.v] at hnn
    rw [hl] at hnn
    exact hnn
  have HS : Hid (zr xl ≤ 4 → 2 * zr xl + 1 ≤ xl.length → 1 ≤ vn 0 ((xl.drop (zr xl)).take (zr xl + 1)) ∧ vn 0 ((xl.drop (zr xl)).take (zr xl + 1)) ≤ 31 ∧ rdD xl = rd xl (2 * zr xl + 1) (vn 0 ((xl.drop (zr xl)).take (zr xl + 1)) - 1)) := sz_fine xl
  have HSUB : Hid (∀ s m, s + m ≤ xl.length → Bits w ⟨some ⟨b, o + s, none⟩, xc - s, (xl.drop s).take m⟩) := Bits.sub h1 h2 h4
  generalize vn 0 ((xl.drop (zr xl)).take (zr xl + 1)) = C at *
  generalize rdD xl = R at *
  generalize zr xl = z at *
  obtain ⟨n, hn⟩ : ∃ n, n = xl.length := ⟨_, rfl⟩
  have HN : Hid (n = xl.length) := hn
  rw [← hn] at h1 h3 h4 hzl hlen HZ HZ0 F2 HNU HS HSUB ⊢
  clear hn
  go_enter Try.func15, Try.ntmps15
  go_wp2
  go_loopg [6] n (fun gg v wr => wr = w ∧ ∃ k : Nat, k ≤ n ∧ n - k ≤ gg ∧ v = .int .i64 k ∧ Aside (∀ i, i < k → xl.getD i false = false))
  case atStart => exact ⟨rfl, 0, Nat.zero_le _, by omega, rfl, fun i hi => absurd hi (Nat.not_lt_zero _)⟩
  case round =>
    obtain ⟨rfl, k, hk, hgg, rfl, A⟩ := hrel
    by_cases hlt : k < n
    · have hltz : (k : Int) < (n : Int) := by omega
      obtain rfl := h3 (by omega)
      have e1 := h4 k hlt
      have Y := A.out
      cases hy : xl.getD k false with
      | false =>
        have A2 : Hid (∀ i, i < k + 1 → xl.getD i false = false) := fun i hi => by
          rcases Nat.lt_succ_iff_lt_or_eq.1 hi with h' | rfl
          · exact Y i h'
          · exact hy
        rw [hy] at e1
        clear A Y hy h3 h4 HSUB
        go_wp2
        go_roundg (n - (k + 1))
        case measure => omega
        case rel => exact ⟨rfl, k + 1, by omega, by omega, by go_num, A2.out⟩
      | true =>
        have hz : z = k := HZ.out k hlt Y hy
        subst hz
        rw [hy] at e1
        clear A Y hy h3 h4 HZ HZ0
        by_cases g1 : 4 < z
        · have hr : Hid (R = none) := F1.out g1
          have g1z : (z : Int) > 4 := by omega
          clear HSUB HS HNU
          go_wp2
          go_ret2
          exact ⟨ret_val (by rw [hr.out]; rfl), Ext.refl _⟩
        · have g1z : ¬ ((z : Int) > 4) := by omega
          by_cases g2 : n < 2 * z + 1
          · have hr : Hid (R = none) := F2.out g2
            have g2z : 2 * (z : Int) + 1 > (n : Int) := by omega
            clear HSUB HS HNU
            go_wp2
            go_ret2
            exact ⟨ret_val (by rw [hr.out]; rfl), Ext.refl _⟩
          · have g2z : ¬ (2 * (z : Int) + 1 > (n : Int)) := by omega
            have g3z : 2 * (z : Int) + 1 ≤ (xc : Int) := by omega
            have g3y : (z : Int) ≤ 2 * (z : Int) + 1 := by omega
            have g4 : ¬ xc = z := by omega
            have hnu := HNU.out (by omega) (by omega)
            obtain ⟨hC1, hC2, hC3⟩ := HS.out (by omega) (by omega)
            have HR : Hid (R = rd xl (2 * z + 1) (C - 1)) := hC3
            clear HNU HS hC3 F1 F2
            go_wp2_with fail
            refine hnu.mono ?_
            rintro e w1 ⟨rfl, rfl⟩
            clear hnu
            by_cases g5 : 21 < C
            · have hr : Hid (R = none) := by show R = none; rw [HR.out]; exact rd_many _ _ _ (by omega)
              have g5z : (C : Int) > 21 := by omega
              clear HSUB HR
              go_wp2
              go_ret2
              exact ⟨ret_val (by rw [hr.out]; rfl), Ext.refl _⟩
            have g5z : ¬ ((C : Int) > 21) := by omega
            by_cases g7 : n < 2 * z + 1 + (C - 1)
            · have hr : Hid (R = none) := by show R = none; rw [HR.out]; exact rd_short (by rw [← HN.out]; omega)
              have g7z : 2 * (z : Int) + 1 + (C : Int) - 1 > (n : Int) := by omega
              clear HSUB HR
              go_wp2
              go_ret2
              exact ⟨ret_val (by rw [hr.out]; rfl), Ext.refl _⟩
            have g7z : ¬ (2 * (z : Int) + 1 + (C : Int) - 1 > (n : Int)) := by omega
            have g8z : 2 * (z : Int) + 1 + (C : Int) - 1 ≤ (xc : Int) := by omega
            have g8y : 2 * (z : Int) + 1 ≤ 2 * (z : Int) + 1 + (C : Int) - 1 := by omega
            obtain ⟨d, hd⟩ : ∃ d, d = (xl.drop (2 * z + 1)).take (C - 1) := ⟨_, rfl⟩
            have hdl : d.length = C - 1 := by rw [hd]; simp; have := HN.out; omega
            have F5 : Hid (2 * z + 1 + (C - 1) ≤ n → 1048576 < vn 1 d → R = none) := fun _ h => by rw [HR.out]; exact rd_great (by rw [← hd]; exact h)
            have F6 : Hid (2 * z + 1 + (C - 1) ≤ n → vn 1 d ≤ 1048576 → R = some (vn 1 d, 2 * z + 1 + (C - 1))) := fun h h' => by
              rw [HR.out, hd]
              exact rd_fine (by rw [← HN.out]; exact h) (by rw [← hd]; exact h')
            have hsb := HSUB.out (2 * z + 1) (C - 1) (by omega)
            rw [← hd] at hsb
            have hvd : Hid (vn 0 ([true] ++ d) = vn 1 d) := rfl
            have hl21 : Hid (([true] ++ d).length ≤ 21) := by show _ ≤ _; simp; omega
            have bx : Hid (([true] : List Bool).length + d.length ≤ 140737488355328) := by show _ ≤ _; rw [hdl]; simp; omega
            clear HSUB HR hd
            generalize vn 1 d = V at *
            by_cases g9 : xc = 2 * z + 1
            · obtain rfl : C = 1 := by omega
              have hd0 : d = [] := List.eq_nil_of_length_eq_zero (by rw [hdl])
              subst hd0
              subst g9
              have ex : Hid (Value.slice (some ⟨b, o, none⟩) 0 (2 * z + 1 - (2 * z + 1)) = Wd.v ⟨some ⟨b, o, none⟩, 0, []⟩) := by show _ = _; rw [Nat.sub_self]; rfl
              have hsrc : Hid (Bits (w1.alloc (.cells #[.bool true] 4)) ⟨some ⟨b, o, none⟩, 0, []⟩) := ⟨by simp, by simp, by simp, 0, 0, by simp, by simp⟩
              clear hsb hdl
              go_wp2_with (at_builtin; refine wpList_appendBits rfl _ _ rfl w1 _ (.slice (some ⟨w1.heap.size, 0, none⟩) 1 1) (by rfl) [true] (OwnB.one w1) ⟨some ⟨b, o, none⟩, 0, []⟩ (by show Value.slice _ _ _ = _; exact ex.out) hsrc.out bx.out ?_; intro v' w2 B1)
              obtain ⟨y, rfl, hy, hyb⟩ := B1.bits
              have HE : Hid (Ext w1 w2) := B1.1
              have hnu2 := number_any y w2 hyb (by rw [hy]; exact hl21.out)
              rw [hy, hvd.out] at hnu2
              clear B1 hy hyb ex bx hsrc hl21 hvd
              go_wp2_with fail
              refine hnu2.mono ?_
              rintro e w3 ⟨rfl, rfl⟩
              clear hnu2
              by_cases g6 : V ≤ 1048576
              · have hr : Hid (R = some (V, 2 * z + 1 + (1 - 1))) := F6.out (by omega) g6
                have g6z : ¬ ((V : Int) > 1048576) := by omega
                go_wp2
                go_ret2
                exact ⟨ret_val (by rw [hr.out]; exact rw2_some _ _ _ (by omega)), HE.out⟩
              · have hr : Hid (R = none) := F5.out (by omega) (by omega)
                have g6z : (V : Int) > 1048576 := by omega
                go_wp2
                go_ret2
                exact ⟨ret_val (by rw [hr.out]; rfl), HE.out⟩
            · have ex : Hid (Value.slice (some ⟨b, o + (2 * z + 1), none⟩) (2 * z + 1 + C - 1 - (2 * z + 1)) (xc - (2 * z + 1)) = Wd.v ⟨some ⟨b, o + (2 * z + 1), none⟩, xc - (2 * z + 1), d⟩) := by show _ = _; rw [Wd.v, hdl, show 2 * z + 1 + C - 1 - (2 * z + 1) = C - 1 by omega]
              have hsrc : Hid (Bits (w1.alloc (.cells #[.bool true] 4)) ⟨some ⟨b, o + (2 * z + 1), none⟩, xc - (2 * z + 1), d⟩) := hsb.ext ((Ext.refl _).alloc _)
              clear hsb hdl
              go_wp2_with (at_builtin; refine wpList_appendBits rfl _ _ rfl w1 _ (.slice (some ⟨w1.heap.size, 0, none⟩) 1 1) (by rfl) [true] (OwnB.one w1) ⟨some ⟨b, o + (2 * z + 1), none⟩, xc - (2 * z + 1), d⟩ (by show Value.slice _ _ _ = _; exact ex.out) hsrc.out bx.out ?_; intro v' w2 B1)
              obtain ⟨y, rfl, hy, hyb⟩ := B1.bits
              have HE : Hid (Ext w1 w2) := B1.1
              have hnu2 := number_any y w2 hyb (by rw [hy]; exact hl21.out)
              rw [hy, hvd.out] at hnu2
              clear B1 hy hyb ex bx hsrc hl21 hvd
              go_wp2_with fail
              refine hnu2.mono ?_
              rintro e w3 ⟨rfl, rfl⟩
              clear hnu2
              by_cases g6 : V ≤ 1048576
              · have hr : Hid (R = some (V, 2 * z + 1 + (C - 1))) := F6.out (by omega) g6
                have g6z : ¬ ((V : Int) > 1048576) := by omega
                go_wp2
                go_ret2
                exact ⟨ret_val (by rw [hr.out]; exact rw2_some _ _ _ (by omega)), HE.out⟩
              · have hr : Hid (R = none) := F5.out (by omega) (by omega)
                have g6z : (V : Int) > 1048576 := by omega
                go_wp2
                go_ret2
                exact ⟨ret_val (by rw [hr.out]; rfl), HE.out⟩
    · have hz : z = n := HZ0.out (fun i hi => A.out i (by omega))
      subst hz
      obtain rfl : k = z := by omega
      have hr : Hid (R = none) := F2.out (by omega)
      clear A F1 F2 HNU HZ HZ0 h3 h4 HS HSUB
      by_cases g1 : 4 < k
      · have g1z : (k : Int) > 4 := by omega
        go_wp2
        go_ret2
        exact ⟨ret_val (by rw [hr.out]; rfl), Ext.refl _⟩
      · have g1z : ¬ ((k : Int) > 4) := by omega
        have g2z : 2 * (k : Int) + 1 > (k : Int) := by omega
        go_wp2
        go_ret2
        exact ⟨ret_val (by rw [hr.out]; rfl), Ext.refl _⟩

end Go.Proofs.Ytenpinjbeejamaa
