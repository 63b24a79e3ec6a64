/-
  quipuref.Dual.
-/
import Derived.Test.YtdfjjjcaibadoaaFb
namespace Go.Proofs.Ytdfjjjcaibadoaa
open Go.RowKit

/-- Whether none of the first k rows has an odd number of bits in common with q. -/
def evK (g : List Nat) (q : Nat) : Nat → Bool
  | 0 => true
  | k + 1 => evK g q k && !odd (g.getD k 0) q
theorem evK_all (g : List Nat) (q : Nat) : ∀ k, k ≤ g.length → evK g q k = (g.take k).all (fun u => !odd u q)
  | 0, _ => by simp [evK]
  | k + 1, h => by
    have e : evK g q (k + 1) = (evK g q k && !odd (g.getD k 0) q) := rfl
    rw [e, evK_all g q k (by omega), List.take_succ_eq_append_getElem (by omega), List.all_append, getD_get (by omega)]
    simp
theorem evK_evn (g : List Nat) (q : Nat) : evK g q g.length = evn g q := by
  rw [evK_all g q _ (Nat.le_refl _), List.take_length]; rfl

set_option maxHeartbeats 1000000 in
theorem refDual_any (n : Nat) (hn : n ≤ 12) (x : Um) (hl : x.z.length ≤ 8) (hb : ∀ y ∈ x.z, y < 2 ^ n) (w : World) (hx : Us w x) :
    Calls Try.prog 13 #[.int .i64 n, x.v] w fun e w' => Hid (∃ v, e = .returned v ∧ OwnU w w' v (dl n x.z)) := by
  have hM : 2 ^ n ≤ 2 ^ 12 := Nat.pow_le_pow_right (by omega) hn
  have pw : (2 : Int) ^ n % 4294967296 = ((2 ^ n : Nat) : Int) := pow_in _ (by omega)
  have FI : Hid (dl n x.z = upTo (evn x.z) (2 ^ n)) := rfl
  have HB := rows_low hn hb
  obtain ⟨a, c, g⟩ := x
  obtain ⟨h1, h2, _, b, o, h4, h5⟩ := hx
  simp only at hl hb h1 h2 h4 h5 FI HB
  simp only [Um.v]
  have H5 : Hid (∀ i, i < g.length → w.cell? ⟨b, o + i, none⟩ = some (.int .u32 (g.getD i 0 : Nat))) := h5
  have HG : Hid (∀ i, i < g.length → g.getD i 0 < 4294967296) := fun i hi => by rw [getD_get hi]; exact HB _ (List.getElem_mem hi)
  have OD : Hid (∀ (x y : Nat) W, x < 4294967296 → y < 4294967296 → Calls Try.prog 26 #[.int .u32 (x : Nat), .int .u32 (y : Nat)] W fun e w' => e = .returned (.bool (odd x y)) ∧ w' = W) := fun x y W hx hy => refOdd_any x y hx hy W
  have EV : Hid (∀ q, evK g q g.length = evn g q) := evK_evn g
  clear h5 hb h2 HB
  generalize dl n g = R at *
  generalize evn g = H at *
  obtain ⟨m, hm⟩ : ∃ m, g.length = m := ⟨_, rfl⟩
  rw [hm] at h1 h4 H5 HG EV hl ⊢
  clear hm
  generalize 2 ^ n = M at *
  go_enter Try.func13, Try.ntmps13
  go_wp2
  go_loopg [5, 6] M (fun gg s5 s6 wr => ∃ k : Nat, k ≤ M ∧ M - k ≤ gg ∧ s6 = .int .u32 k ∧ Aside (OwnU w wr s5 (upTo H k)))
  case atStart => exact ⟨0, Nat.zero_le _, by omega, rfl, OwnU.nil (Ext.refl _)⟩
  case round =>
    obtain ⟨k, hk, hg, rfl, O⟩ := hrel
    by_cases hlt : k < M
    · have hltz : (k : Int) < (M : Int) := by omega
      have OO : Hid (OwnU w wr u5 (upTo H k)) := O.out
      have hfl : Hid (((upTo H k).length + 1) * 4 ≤ 140737488355328) := by show _ ≤ _; have := upTo_few H k; omega
      obtain ⟨wo, rfl⟩ : ∃ wo, wo = wr := ⟨_, rfl⟩
      clear O FI
      go_wp2
      rw [pw]
      clear pw
      go_loopg [7, 19] m (fun gg s7 s19 wi => ∃ j : Nat, j ≤ m ∧ m - j ≤ gg ∧ s19 = .int .i64 j ∧ s7 = .bool (evK g k j) ∧ wi = wo)
      case atStart => exact ⟨0, Nat.zero_le _, by omega, rfl, rfl, rfl⟩
      case round =>
        obtain ⟨j, hj, hg2, rfl, rfl, rfl⟩ := hrel
        by_cases hlt2 : j < m
        · have hltz2 : (j : Int) < (m : Int) := by omega
          obtain rfl := h4 (by omega)
          have e1 := OO.out.1.cell (H5.out j hlt2)
          have b1 := HG.out j hlt2
          have c1 := OD.out (g.getD j 0) k wr b1 (by omega)
          have nx : Hid (evK g k (j + 1) = (evK g k j && !odd (g.getD j 0) k)) := rfl
          generalize odd (g.getD j 0) k = t at *
          generalize g.getD j 0 = y at *
          cases hq : evK g k j
          · have NX : Hid (evK g k (j + 1) = false) := by show _ = _; rw [nx.out, hq]; rfl
            clear hq c1 nx
            go_wp2
            go_roundg (m - (j + 1))
            case measure => omega
            case rel => exact ⟨j + 1, by omega, by omega, by go_num, by rw [NX.out], rfl⟩
          · have NX : Hid (evK g k (j + 1) = !t) := by show _ = _; rw [nx.out, hq]; rfl
            clear hq nx
            go_wp2_with fail
            refine c1.mono ?_
            rintro e w1 ⟨rfl, rfl⟩
            clear c1
            go_wp2
            go_roundg (m - (j + 1))
            case measure => omega
            case rel => exact ⟨j + 1, by omega, by omega, by go_num, by rw [NX.out], rfl⟩
        · obtain rfl : j = m := by omega
          have hltz2 : ¬ (j : Int) < (j : Int) := by omega
          have ev := EV.out k
          have NY : Hid (H k = true → upTo H (k + 1) = upTo H k ++ [k]) := upTo_yes
          have NN : Hid (H k = false → upTo H (k + 1) = upTo H k) := upTo_no
          rw [ev]
          cases hq : H k
          · have NX := NN.out hq
            have O2 : Hid (OwnU w wr u5 (upTo H (k + 1))) := by show OwnU _ _ _ _; rw [NX]; exact OO.out
            clear hq ev NY NN NX
            go_wp2
            go_roundg (M - (k + 1))
            case measure => omega
            case rel => exact ⟨k + 1, by omega, by omega, by go_num, O2.out⟩
          · have NX : Hid (upTo H (k + 1) = upTo H k ++ [k]) := NY.out hq
            clear hq ev NY NN
            go_wp2_with (at_builtin; refine wpList_appendU rfl _ _ rfl w _ u5 (by rfl) _ OO.out k (by rfl) hfl.out ?_; intro v' w3 O3; have O3' : Hid (OwnU w w3 v' (upTo H (k + 1))) := by (show OwnU _ _ _ _; rw [NX.out]; exact O3))
            go_roundg (M - (k + 1))
            case measure => omega
            case rel => exact ⟨k + 1, by omega, by omega, by go_num, O3'.out⟩
    · obtain rfl : k = M := by omega
      have hltz : ¬ (k : Int) < (k : Int) := by omega
      have OO : Hid (OwnU w wr u5 R) := by show OwnU _ _ _ _; rw [FI.out]; exact O.out
      clear O
      go_wp2
      go_ret
      exact ⟨u5, rfl, OO.out⟩

end Go.Proofs.Ytdfjjjcaibadoaa
