/-
  What quipuref.Kraft answers of lengths.
-/
import Derived.Test.YtebghhpjpmekkaaSum
namespace Go.Proofs.Ytebghhpjpmekkaa
open Go.RowKit

set_option maxHeartbeats 1000000 in
theorem kraft_any (z : Nm) (w : World) (hz : Nums w z) (hl : lerl z.z = 0) :
    Calls Try.prog 13 #[z.v] w fun e w' => e = .returned (.int .i64 (ksum z.z)) ∧ w' = w := by
  obtain ⟨k1, k2, _, zb, zo, k4, k5⟩ := hz
  obtain ⟨za, zc, zz⟩ := z
  simp only [Nm.v] at *
  rcases lerl_cases zz with ⟨h, e⟩ | ⟨h, h', e⟩ | ⟨h, h', e⟩
  · omega
  · omega
  · obtain ⟨m, hm⟩ : ∃ m, zz.length = m := ⟨_, rfl⟩
    have HM : Hid (zz.length = m) := hm
    have K5 : Hid (∀ i (h : i < zz.length), w.cell? ⟨zb, zo + i, none⟩ = some (.int .i64 zz[i])) := fun i h => by
      have := k5 i h
      rwa [List.getD_eq_getElem?_getD, List.getElem?_eq_getElem h] at this
    have HA : Hid (∀ x ∈ zz, outB x = false) := fun x hx => by
      have := List.any_eq_false.1 h' x hx
      simpa using this
    unfold maxLen at k2
    rw [hm] at k1 k4 h ⊢
    clear hm k5 h' e hl
    go_enter Try.func13, Try.ntmps13
    go_wp2
    go_loopg [3, 5, 6, 7, 10] m (fun gg v _ _ _ s wr => wr = w ∧ ∃ k : Nat, k ≤ m ∧ m - k ≤ gg ∧ s = .int .i64 k ∧ v = .int .i64 (ksum (zz.take k)))
    case atStart => exact ⟨rfl, 0, Nat.zero_le _, by omega, rfl, rfl⟩
    case round =>
      obtain ⟨rfl, k, hk, hgg, rfl, rfl⟩ := hrel
      by_cases hlt : k < m
      · have hltz : (k : Int) < (m : Int) := by omega
        obtain rfl := k4 (by omega)
        have hkl : k < zz.length := by rw [HM.out]; exact hlt
        have e1 := K5.out k hkl
        obtain ⟨q, hq, hq8⟩ := outB_no (HA.out zz[k] (List.getElem_mem hkl))
        have nx : Hid (ksum (zz.take (k + 1)) = ksum (zz.take k) + 2 ^ (8 - q)) := by
          show _ = _
          rw [ksum_take zz k hkl, hq]
          rfl
        rw [hq] at e1
        have b1 : ksum (zz.take k) ≤ 256 * 8 := by
          have t1 := ksum_le (zz.take k)
          have t2 : (zz.take k).length ≤ k := by simp; omega
          omega
        clear hq k4
        generalize ksum (zz.take k) = A at *
        go_wp2
        go_loopg [6, 7] (8 - q) (fun gg p s wi => wi = wr ∧ ∃ t : Nat, q ≤ t ∧ t ≤ 8 ∧ 8 - t ≤ gg ∧ s = .int .i64 t ∧ p = .int .i64 ((2 ^ (t - q) : Nat) : Int))
        case atStart => exact ⟨rfl, q, Nat.le_refl _, hq8, Nat.le_refl _, rfl, by simp⟩
        case round =>
          obtain ⟨rfl, t, t1, t2, t3, rfl, rfl⟩ := hrel
          by_cases ht : t < 8
          · have htz : (t : Int) < 8 := by omega
            have b3 : 2 ^ (t - q) ≤ 256 := Nat.pow_le_pow_right (n := 2) (by omega) (show t - q ≤ 8 by omega)
            have nx2 : Hid (2 ^ (t + 1 - q) = 2 ^ (t - q) * 2) := by
              show _ = _
              rw [show t + 1 - q = (t - q) + 1 by omega, Nat.pow_succ]
            generalize 2 ^ (t - q) = P at *
            go_wp2
            go_roundg (8 - (t + 1))
            case measure => omega
            case rel => exact ⟨rfl, t + 1, by omega, by omega, by omega, by go_num, by rw [nx2.out]; go_num⟩
          · obtain rfl : t = 8 := by omega
            have b3 : 2 ^ (8 - q) ≤ 256 := Nat.pow_le_pow_right (n := 2) (by omega) (show 8 - q ≤ 8 by omega)
            generalize 2 ^ (8 - q) = P at *
            go_wp2
            go_roundg (m - (k + 1))
            case measure => omega
            case rel => exact ⟨rfl, k + 1, by omega, by omega, by go_num, by rw [nx.out]; go_num⟩
      · have hk' : k = m := by omega
        have fin : Hid (ksum (zz.take k) = ksum zz) := by show _ = _; rw [List.take_of_length_le (by have := HM.out; omega)]
        go_wp2
        go_ret
        exact ⟨by rw [fin.out]; rfl, rfl⟩

end Go.Proofs.Ytebghhpjpmekkaa
