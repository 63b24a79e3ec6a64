/-
  What kraft.Sum, quipuref.LensCheck and quipuref.Kraft answer of lengths.
-/
import Derived.Test.YtakggfogoobdnaaNum
namespace Go.Proofs.Ytakggfogoobdnaa
open Go.RowKit

/-- A length that no word may have. -/
def outB (n : Int) : Bool := decide (n < 0) || decide (8 < n)
/-- What is wrong with lengths. -/
def lerl (z : List Int) : Int := if 8 < z.length then 1 else if z.any outB then 4 else 0
/-- How much room a length takes. -/
def shr (n : Int) : Nat := 2 ^ (8 - n.toNat)
/-- How much room lengths take. -/
def ksum (z : List Int) : Nat := (z.map shr).sum

theorem lerl_long {z : List Int} (h : 8 < z.length) : lerl z = 1 := by simp [lerl, h]
theorem lerl_any {z : List Int} (h : z.length ≤ 8) (h' : z.any outB = true) : lerl z = 4 := by
  unfold lerl; rw [if_neg (by omega), if_pos h']
theorem lerl_ok {z : List Int} (h : z.length ≤ 8) (h' : z.any outB = false) : lerl z = 0 := by
  unfold lerl; rw [if_neg (by omega), h']; rfl
theorem lerl_cases (z : List Int) : (8 < z.length ∧ lerl z = 1) ∨ (z.length ≤ 8 ∧ z.any outB = true ∧ lerl z = 4) ∨ (z.length ≤ 8 ∧ z.any outB = false ∧ lerl z = 0) := by
  by_cases h : 8 < z.length
  · exact .inl ⟨h, lerl_long h⟩
  · cases h' : z.any outB with
    | true => exact .inr (.inl ⟨by omega, rfl, lerl_any (by omega) h'⟩)
    | false => exact .inr (.inr ⟨by omega, rfl, lerl_ok (by omega) h'⟩)

theorem outB_no {n : Int} (h : outB n = false) : ∃ m : Nat, n = m ∧ m ≤ 8 := by
  simp [outB] at h
  exact ⟨n.toNat, by omega, by omega⟩

theorem shr_le (n : Int) : shr n ≤ 256 := by
  unfold shr
  exact Nat.pow_le_pow_right (n := 2) (by omega) (show 8 - n.toNat ≤ 8 by omega)

theorem ksum_take (z : List Int) (k : Nat) (h : k < z.length) : ksum (z.take (k + 1)) = ksum (z.take k) + shr z[k] := by
  unfold ksum
  rw [List.take_succ_eq_append_getElem h, List.map_append, List.sum_append]
  simp
theorem ksum_le : ∀ z : List Int, ksum z ≤ 256 * z.length
  | [] => by simp [ksum]
  | a :: r => by
    have := ksum_le r
    have := shr_le a
    simp only [ksum, List.map_cons, List.sum_cons, List.length_cons] at *
    omega

set_option maxHeartbeats 400000 in
theorem outside_any (n : Int) (w : World) : Calls Try.prog 37 (#[.int .i64 n] ++ #[]) w fun e w' => e = .returned (.bool (outB n)) ∧ Ext w w' := by
  show Calls Try.prog 37 #[.int .i64 n] w _
  by_cases h0 : n < 0
  · have hs : outB n = true := by simp [outB, h0]
    rw [hs]
    clear hs
    go_enter Try.func37, Try.ntmps37
    go_wp2
    go_ret
    exact ⟨rfl, Ext.refl w⟩
  · have hs : outB n = decide (8 < n) := by simp [outB, h0]
    rw [hs]
    clear hs
    go_enter Try.func37, Try.ntmps37
    go_wp2
    go_ret
    exact ⟨rfl, Ext.refl w⟩

set_option maxHeartbeats 400000 in
theorem share_any (m : Nat) (hm : m ≤ 8) (w : World) : Calls Try.prog 39 #[.int .i64 (m : Int)] w fun e w' => e = .returned (.int .i64 (shr m)) ∧ w' = w := by
  have h : m = 0 ∨ m = 1 ∨ m = 2 ∨ m = 3 ∨ m = 4 ∨ m = 5 ∨ m = 6 ∨ m = 7 ∨ m = 8 := by omega
  rcases h with rfl | rfl | rfl | rfl | rfl | rfl | rfl | rfl | rfl
  all_goals
    go_enter Try.func39, Try.ntmps39
    go_wp2
    go_ret
    exact ⟨rfl, rfl⟩

set_option maxHeartbeats 1000000 in
theorem sum_any (z : Nm) (w : World) (hz : Nums w z) :
    Calls Try.prog 27 #[z.v] w fun e w' => e = .returned (.tuple #[.int .i64 (if lerl z.z = 0 then (ksum z.z : Int) else 0), .int .i64 (lerl z.z)]) ∧ Ext w w' := by
  have eg : ∀ args w, (callFunc 37 args).run Try.prog w = .ok (.enter 37 args) w := enters_of Try.func37 (by kernel_rfl) rfl
  have hc := containsN_any z.a z.c z.z 37 #[] outB w eg hz (fun W x _ _ => outside_any x W)
  obtain ⟨k1, k2, _, zb, zo, k4, k5⟩ := hz
  obtain ⟨za, zc, zz⟩ := z
  simp only [Nm.v] at *
  have SH : Hid (∀ (m : Nat) (W : World), m ≤ 8 → Calls Try.prog 39 #[.int .i64 (m : Int)] W fun e w' => e = .returned (.int .i64 (shr m)) ∧ w' = W) := fun m W hm => share_any m hm W
  rcases lerl_cases zz with ⟨h, e⟩ | ⟨h, h', e⟩ | ⟨h, h', e⟩
  · rw [e]
    simp only [show ¬ ((1 : Int) = 0) by omega, if_false]
    clear hc k5 e
    generalize zz.length = m at *
    have hz : (8 : Int) < (m : Int) := by omega
    go_enter Try.func27, Try.ntmps27
    go_wp2
    go_ret2
    exact ⟨rfl, Ext.refl w⟩
  · rw [e]
    rw [h'] at hc
    simp only [show ¬ ((4 : Int) = 0) by omega, if_false]
    clear k5 e h'
    generalize zz.length = m at *
    have hz : ¬ (8 : Int) < (m : Int) := by omega
    go_enter Try.func27, Try.ntmps27
    go_wp2_with (go_at_call 38; refine hc.mono ?_; rintro e w' ⟨rfl, hb⟩)
    go_ret2
    exact ⟨rfl, hb⟩
  · rw [e]
    rw [h'] at hc
    simp only [if_true]
    obtain ⟨m, hm⟩ : ∃ m, zz.length = m := ⟨_, rfl⟩
    have HM : Hid (zz.length = m) := hm
    have K5 : Hid (∀ i (h : i < zz.length), w.cell? ⟨zb, zo + i, none⟩ = some (.int .i64 zz[i])) := fun i h => by
      have := k5 i h
      rwa [List.getD_eq_getElem?_getD, List.getElem?_eq_getElem h] at this
    have HA : Hid (∀ x ∈ zz, outB x = false) := fun x hx => by
      have := List.any_eq_false.1 h' x hx
      simpa using this
    unfold maxLen at k2
    rw [hm] at k1 k4 hc h ⊢
    have hz : ¬ (8 : Int) < (m : Int) := by omega
    clear hm k5 h' e
    go_enter Try.func27, Try.ntmps27
    go_wp2_with fail
    refine hc.mono ?_
    rintro e w1 ⟨rfl, hb⟩
    have HB : Hid (Ext w w1) := hb
    clear hb
    go_wp2
    go_loopg [5, 7, 16] m (fun gg v _ s wr => wr = w1 ∧ ∃ k : Nat, k ≤ m ∧ m - k ≤ gg ∧ s = .int .i64 k ∧ v = .int .i64 (ksum (zz.take k)))
    case atStart => exact ⟨rfl, 0, Nat.zero_le _, by omega, rfl, rfl⟩
    case round =>
      obtain ⟨rfl, k, hk, hgg, rfl, rfl⟩ := hrel
      by_cases hlt : k < m
      · have hltz : (k : Int) < (m : Int) := by omega
        obtain rfl := k4 (by omega)
        have hkl : k < zz.length := by rw [HM.out]; exact hlt
        have e1 := HB.out.cell (K5.out k hkl)
        obtain ⟨q, hq, hq8⟩ := outB_no (HA.out zz[k] (List.getElem_mem hkl))
        have nx : Hid (ksum (zz.take (k + 1)) = ksum (zz.take k) + shr q) := by
          show _ = _
          rw [ksum_take zz k hkl, hq]
        rw [hq] at e1
        have b1 : ksum (zz.take k) ≤ 256 * 8 := by
          have t1 := ksum_le (zz.take k)
          have t2 : (zz.take k).length ≤ k := by simp; omega
          omega
        have b2 := shr_le q
        have hs := SH.out q wr hq8
        clear hq k4
        generalize ksum (zz.take k) = A at *
        generalize shr q = B at *
        go_wp2_with (go_at_call 39; refine hs.mono ?_; rintro e w2 ⟨rfl, rfl⟩)
        go_roundg (m - (k + 1))
        case measure => omega
        case rel => exact ⟨rfl, k + 1, by omega, by omega, by go_num, by rw [nx.out]; go_num⟩
      · have hk' : k = m := by omega
        have fin : Hid (ksum (zz.take k) = ksum zz) := by show _ = _; rw [List.take_of_length_le (by have := HM.out; omega)]
        go_wp2
        go_ret2
        exact ⟨by rw [fin.out]; rfl, HB.out⟩


end Go.Proofs.Ytakggfogoobdnaa
