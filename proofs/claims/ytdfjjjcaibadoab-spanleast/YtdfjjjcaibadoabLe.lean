/-
  book.Least.
-/
import Derived.Test.YtdfjjjcaibadoabNr
import Derived.Test.YtdfjjjcaibadoabMix
namespace Go.Proofs.Ytdfjjjcaibadoab
open Go.RowKit

theorem least_bad (n : Int) (x : Um) (hb : ∀ y ∈ x.z, y < 4294967296) (w : World) (hx : Us w x) (h : bke n x.z ≠ 0) : Calls Try.prog 16 #[.int .i64 n, x.v] w fun e w' => e = .returned (.tuple #[.int .i64 0, .int .i64 (bke n x.z)]) ∧ Ext w w' := by
  have c1 := book_any n x hb w hx
  have hz : (bke n x.z != 0) = true := by rw [bne_iff_ne]; exact h
  clear h hx hb
  generalize bke n x.z = E at *
  obtain ⟨a, c, g⟩ := x
  simp only [Um.v] at *
  generalize g.length = l at *
  go_enter Try.func16, Try.ntmps16
  go_wp2_with fail
  refine c1.mono ?_
  rintro e w' ⟨rfl, E1⟩
  have X1 : Aside (Ext w w') := E1
  clear c1 E1
  go_wp2
  go_ret2
  exact ⟨rfl, X1.out⟩

theorem least_none (n : Int) (x : Um) (hb : ∀ y ∈ x.z, y < 4294967296) (w : World) (hx : Us w x) (h : bke n x.z = 0) (hl : x.z.length < 2) : Calls Try.prog 16 #[.int .i64 n, x.v] w fun e w' => e = .returned (.tuple #[.int .i64 0, .int .i64 5]) ∧ Ext w w' := by
  have c1 := book_any n x hb w hx
  rw [h] at c1
  clear h hx hb
  obtain ⟨a, c, g⟩ := x
  simp only [Um.v] at *
  generalize g.length = l at *
  have hz : (l : Int) < 2 := by omega
  go_enter Try.func16, Try.ntmps16
  go_wp2_with fail
  refine c1.mono ?_
  rintro e w' ⟨rfl, E1⟩
  have X1 : Aside (Ext w w') := E1
  clear c1 E1
  go_wp2
  go_ret2
  exact ⟨rfl, X1.out⟩

theorem Us.first {w : World} {x : Um} (h : Us w x) {k : Nat} (hk : k ≤ x.z.length) : Us w ⟨x.a, x.c, x.z.take k⟩ := by
  obtain ⟨h1, h2, h0, b, o, h3, h4⟩ := h
  have hl : (x.z.take k).length = k := by simp; omega
  refine ⟨by simp only [hl]; omega, h2, h0, b, o, fun h => h3 (by simp only [hl] at h; omega), fun i hi => ?_⟩
  simp only [hl] at hi
  have := h4 i (by omega)
  simpa [List.getD_eq_getElem?_getD, hi] using this

theorem getD_take {g : List Nat} {k i : Nat} (h : i < k) : (g.take k).getD i 0 = g.getD i 0 := by simp [List.getD_eq_getElem?_getD, h]

theorem least_good (n : Nat) (x : Um) (w : World) (hx : Us w x) (B : Book n x.z) (hl2 : 2 ≤ x.z.length) : Calls Try.prog 16 #[.int .i64 n, x.v] w fun e w' => e = .returned (.tuple #[.int .i64 (lst n x.z (x.z.length - 1) : Nat), .int .i64 0]) ∧ Ext w w' := by
  have hM : 2 ^ n ≤ 2 ^ 12 := Nat.pow_le_pow_right (by omega) B.bits
  have hb : ∀ y ∈ x.z, y < 4096 := fun y hy => by have := B.low y hy; omega
  have c1 := book_any n x (fun y hy => by have := hb y hy; omega) w hx
  rw [B.told] at c1
  have HB : ∀ i, i < x.z.length → x.z.getD i 0 < 4096 := fun i hi => by rw [getD_get hi]; exact hb _ (List.getElem_mem hi)
  have NE : Hid (∀ (k : Nat) W, k + 1 < x.z.length → Ext w W → Calls Try.prog 35 #[.slice x.a (k + 1) x.c, .int .u32 (x.z.getD (k + 1) 0 : Nat)] W fun e w' => ∃ v : Int, e = .returned (.tuple #[.int .i64 v, .int .i64 (far (x.z.getD (bst x.z (x.z.getD (k + 1) 0) (k + 1)) 0) (x.z.getD (k + 1) 0) : Nat)]) ∧ Ext W w') := fun k W hk E => by
    have hlt : (x.z.take (k + 1)).length = k + 1 := by simp; omega
    have c := nearest_any ⟨x.a, x.c, x.z.take (k + 1)⟩ (by simp only [hlt]; have := B.few; omega) (by simp only [hlt]; omega) (fun y hy => hb y (List.mem_of_mem_take hy)) (x.z.getD (k + 1) 0) (HB _ hk) W ((hx.first (by omega)).ext E)
    simp only [Um.v, hlt] at c
    rw [bst_take _ _ _ _ (Nat.le_refl _)] at c
    have hlt' := bst_lt x.z (x.z.getD (k + 1) 0) (k + 1) (by omega)
    rw [getD_take hlt'] at c
    exact c.mono fun e w' ⟨h1, h2⟩ => ⟨_, h1, h2⟩
  have few := B.few
  have hn := B.bits
  obtain ⟨a, c, g⟩ := x
  obtain ⟨h1, h2, _, b, o, h4, h5⟩ := hx
  simp only at hl2 few h1 h2 h4 h5 c1 NE HB ⊢
  simp only [Um.v] at *
  unfold maxLen at h2
  have H5 : Hid (∀ i, i < g.length → w.cell? ⟨b, o + i, none⟩ = some (.int .u32 (g.getD i 0 : Nat))) := h5
  have LN : Hid (∀ k, lst n g (k + 1) = min (lst n g k) (far (g.getD (bst g (g.getD (k + 1) 0) (k + 1)) 0) (g.getD (k + 1) 0))) := fun k => rfl
  have L0 : Hid (lst n g 0 = n) := rfl
  have LL : Hid (∀ k, lst n g k ≤ n) := lst_le n g
  have F32 : Hid (∀ k q, far (g.getD k 0) q ≤ 32) := fun k q => far_le32 _ _
  obtain rfl := h4 (by omega)
  clear h4 h5 hb HB B
  have L : ∃ m, g.length = m := ⟨_, rfl⟩
  obtain ⟨m, hm⟩ := L
  rw [hm] at few hl2 h1 NE H5 c1 ⊢
  clear hm hM
  have G0 : Hid (∃ m', m = m' + 1) := ⟨m - 1, by omega⟩
  have lz : ¬ (m : Int) < 2 := by omega
  go_enter Try.func16, Try.ntmps16
  go_wp2_with fail
  refine c1.mono ?_
  rintro e w1 ⟨rfl, E1⟩
  have X1 : Aside (Ext w w1) := E1
  clear c1 E1
  go_wp2
  go_loopg [7, 8, 9, 10] m (fun gg s7 s _ _ wr => ∃ k : Nat, k + 1 ≤ m ∧ m - (k + 1) ≤ gg ∧ s = .int .i64 (k + 1 : Nat) ∧ s7 = .int .i64 (lst n g k : Nat) ∧ Aside (Ext w wr))
  case atStart => exact ⟨0, by omega, by omega, rfl, by rw [L0.out], X1.out⟩
  case round =>
    obtain ⟨k, hk, hgg, rfl, rfl, BW⟩ := hrel
    by_cases hlt : k + 1 < m
    · have hltz : ((k + 1 : Nat) : Int) < (m : Int) := by omega
      have hkc : ((k + 1 : Nat) : Int) ≤ (c : Int) := by omega
      have ln := LN.out k
      have l1 := LL.out k
      have f1 := F32.out (bst g (g.getD (k + 1) 0) (k + 1)) (g.getD (k + 1) 0)
      have e1 : Hid (∀ W, Ext wr W → W.cell? ⟨b, o + (k + 1), none⟩ = some (.int .u32 (g.getD (k + 1) 0 : Nat))) := fun W E => (BW.out.trans E).cell (H5.out (k + 1) hlt)
      have c2 : Hid (∀ W, Ext wr W → Calls Try.prog 35 #[.slice (some ⟨b, o, none⟩) (k + 1) c, .int .u32 (g.getD (k + 1) 0 : Nat)] W fun e w' => ∃ v : Int, e = .returned (.tuple #[.int .i64 v, .int .i64 (far (g.getD (bst g (g.getD (k + 1) 0) (k + 1)) 0) (g.getD (k + 1) 0) : Nat)]) ∧ Ext W w') := fun W E => NE.out k W hlt (BW.out.trans E)
      generalize far (g.getD (bst g (g.getD (k + 1) 0) (k + 1)) 0) (g.getD (k + 1) 0) = F at *
      generalize g.getD (k + 1) 0 = y at *
      generalize hK : k + 1 = K at *
      have KK : Hid (k + 1 = K) := hK
      clear hK
      go_wp2
      refine wp_region_mix (fun W => Ext wr W) 13 (by rfl) (by kernel_rfl) ?_
      refine wpMix_take (v := .slice (some ⟨b, o, none⟩) m c) 0 (by rfl) (by kernel_rfl) ⟨by rfl, ?_⟩ ?_
      · rintro W -
        go_simp
      refine wpMix_take (v := .int .i64 (K : Nat)) 1 (by rfl) (by kernel_rfl) ⟨by rfl, ?_⟩ ?_
      · rintro W -
        go_simp
      refine wpMix_take (v := .slice (some ⟨b, o, none⟩) K c) 2 (by rfl) (by kernel_rfl) ⟨by rfl, ?_⟩ ?_
      · rintro W -
        go_simp
      refine wpMix_take (v := .slice (some ⟨b, o, none⟩) m c) 3 (by rfl) (by kernel_rfl) ⟨by rfl, ?_⟩ ?_
      · rintro W -
        go_simp
      refine wpMix_take (v := .int .i64 (K : Nat)) 4 (by rfl) (by kernel_rfl) ⟨by rfl, ?_⟩ ?_
      · rintro W -
        go_simp
      refine wpMix_take (v := .pointer (some ⟨b, o + K, none⟩)) 5 (by rfl) (by kernel_rfl) ⟨by rfl, ?_⟩ ?_
      · rintro W -
        go_simp
      refine wpMix_take (v := .int .u32 (y : Nat)) 6 (by rfl) (by kernel_rfl) ⟨by rfl, ?_⟩ ?_
      · rintro W hW
        have e1' := e1.out W hW
        go_simp
      have ED : Ext wr wr.drew := ext_drew wr
      refine wpMix_only 7 (by kernel_rfl) ED ?_
      refine mOp_call (f := 35) (args := #[.slice (some ⟨b, o, none⟩) K c, .int .u32 (y : Nat)]) (w' := wr.drew) (by rfl) (by rfl) ?_ ?_
      · go_simp
      refine (c2.out wr.drew ED).mono ?_
      rintro e w2 ⟨v, rfl, E2⟩
      have X2 : Ext wr w2 := ED.trans E2
      refine ⟨_, rfl, ?_⟩
      refine wpMix_take (v := .tuple #[.int .i64 v, .int .i64 (F : Nat)]) 8 (by rfl) (by kernel_rfl) ⟨by rfl, ?_⟩ ?_
      · rintro W -
        go_simp
      refine wpMix_take (v := .int .i64 v) 9 (by rfl) (by kernel_rfl) ⟨by rfl, ?_⟩ ?_
      · rintro W -
        go_simp
      refine wpMix_take (v := .int .i64 (F : Nat)) 10 (by rfl) (by kernel_rfl) ⟨by rfl, ?_⟩ ?_
      · rintro W -
        go_simp
      refine wpMix_take (v := .int .i64 v) 11 (by rfl) (by kernel_rfl) ⟨by rfl, ?_⟩ ?_
      · rintro W -
        go_simp
      refine wpMix_take (v := .int .i64 (F : Nat)) 12 (by rfl) (by kernel_rfl) ⟨by rfl, ?_⟩ ?_
      · rintro W -
        go_simp
      refine wpMix_done (by kernel_rfl) X2 ?_
      have X3 : Aside (Ext w w2) := BW.out.trans X2
      clear c2 e1 E2 X2 ED
      have mn : (if (F : Int) < (lst n g k : Nat) then (F : Int) else (lst n g k : Nat)) = (lst n g K : Nat) := by
        rw [ln]; split <;> omega
      go_wp2
      go_roundg (m - (K + 1))
      case measure => omega
      case rel => exact ⟨K, by omega, by omega, by go_num, by go_num, X3.out⟩
    · obtain rfl : m = k + 1 := by omega
      have kz : ¬ ((k + 1 : Nat) : Int) < ((k + 1 : Nat) : Int) := by omega
      go_wp2
      go_ret2
      exact ⟨rfl, BW.out⟩

end Go.Proofs.Ytdfjjjcaibadoab
