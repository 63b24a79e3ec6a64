/-
  quipuref.Grown.
-/
import Derived.Test.YtfcleenbhadfhabGw
namespace Go.Proofs.Ytfcleenbhadfhab
open Go.RowKit

theorem any_of_all {g : List Nat} {k d : Nat} {b : Bool} (h : b = true ↔ ∀ i, i < g.length → d ≤ far (g.getD i 0) k) : g.any (fun v => decide (far v k < d)) = !b := by
  cases b with
  | true =>
    refine List.any_eq_false.2 (fun y hy => ?_)
    obtain ⟨i, hi, rfl⟩ := List.mem_iff_getElem.1 hy
    have := h.1 rfl i hi
    rw [getD_get hi] at this
    simp; omega
  | false =>
    cases e : g.any (fun v => decide (far v k < d)) with
    | true => rfl
    | false =>
      have := h.2 (fun i hi => by
        have := List.any_eq_false.1 e _ (List.getElem_mem hi)
        rw [getD_get hi]
        simp at this
        omega)
      cases this

theorem grown_any (n d : Nat) (hn : n ≤ 12) (w : World) : Calls Try.prog 16 #[.int .i64 n, .int .i64 d] w fun e w' => ∃ v, e = .returned v ∧ OwnU w w' v (gw d (2 ^ n)) := by
  have hM : 2 ^ n ≤ 2 ^ 12 := Nat.pow_le_pow_right (by omega) hn
  have pw : (2 : Int) ^ n % 4294967296 = ((2 ^ n : Nat) : Int) := pow_in n (by omega)
  have LT : Hid (∀ k, ∀ y ∈ gw d k, y < k) := gw_lt d
  have FW : Hid (∀ k, (gw d k).length ≤ k) := gw_few d
  have AP : Hid (∀ (a b : Nat) W, a < 4096 → b < 4096 → Calls Try.prog 14 #[.int .u32 (a : Nat), .int .u32 (b : Nat)] W fun e w' => e = .returned (.int .i64 (far a b : Nat)) ∧ w' = W) := fun a b W ha hb => refApart_any a b (by omega) (by omega) W
  generalize 2 ^ n = M at *
  go_enter Try.func16, Try.ntmps16
  go_wp2
  go_loopg [5, 6, 7, 9] M (fun gg s5 s _ _ wr => ∃ k : Nat, k ≤ M ∧ M - k ≤ gg ∧ s = .int .u32 k ∧ Aside (OwnU w wr s5 (gw d k)))
  case atStart => exact ⟨0, Nat.zero_le _, by omega, rfl, OwnU.nil (Ext.refl _)⟩
  case round =>
    obtain ⟨k, hk, hgg, rfl, O⟩ := hrel
    by_cases hlt : k < M
    · have hltz : (k : Int) < (M : Int) := by omega
      have hk4 : k < 4096 := by omega
      obtain ⟨x, rfl, hz, hus⟩ := O.out.us
      have OO : Hid (OwnU w wr x.v (gw d k)) := O.out
      have lt := LT.out k
      have fw := FW.out k
      rw [← hz] at lt fw
      have HZ : Hid (x.z = gw d k) := hz
      obtain ⟨a, c, g⟩ := x
      obtain ⟨h1, h2, _, b, o, h4, h5⟩ := hus
      simp only at h1 h2 h4 h5 lt fw HZ
      simp only [Um.v] at *
      have H5 : Hid (∀ i, i < g.length → wr.cell? ⟨b, o + i, none⟩ = some (.int .u32 (g.getD i 0 : Nat))) := h5
      have HA : Hid (∀ i W, i < g.length → Calls Try.prog 14 #[.int .u32 (g.getD i 0 : Nat), .int .u32 (k : Nat)] W fun e w' => e = .returned (.int .i64 (far (g.getD i 0) k : Nat)) ∧ w' = W) := fun i W hi => AP.out _ _ W (by have := lt _ (List.getElem_mem hi); rw [getD_get hi]; omega) hk4
      have F32 : Hid (∀ i, far (g.getD i 0) k ≤ 32) := fun i => far_le32 _ _
      have ALL : Hid (∀ bb : Bool, (bb = true ↔ ∀ i, i < g.length → d ≤ far (g.getD i 0) k) → (gw d k).any (fun v => decide (far v k < d)) = !bb) := fun bb h => by
        rw [← HZ.out]; exact any_of_all h
      have GY : Hid ((gw d k).any (fun v => decide (far v k < d)) = true → gw d (k + 1) = gw d k) := gw_yes
      have GN : Hid ((gw d k).any (fun v => decide (far v k < d)) = false → gw d (k + 1) = gw d k ++ [k]) := gw_no
      have hfl : Hid (((gw d k).length + 1) * 4 ≤ 140737488355328) := by show _ ≤ _; rw [← HZ.out]; omega
      clear O lt h5 hz AP LT
      generalize (gw d k).any (fun v => decide (far v k < d)) = t at *
      have L : ∃ m, g.length = m := ⟨_, rfl⟩
      obtain ⟨m, hm⟩ := L
      rw [hm] at h1 h4 H5 HA fw ALL OO ⊢
      clear hm
      unfold maxLen at h2
      go_wp2
      rw [pw]
      clear pw
      go_loopg [7, 9, 19] m (fun gg s7 _ s wr2 => ∃ (i : Nat) (bb : Bool), i ≤ m ∧ m - i ≤ gg ∧ s = .int .i64 i ∧ s7 = .bool bb ∧ Aside (bb = true ↔ ∀ j, j < i → d ≤ far (g.getD j 0) k) ∧ wr2 = wr)
      case atStart => exact ⟨0, true, Nat.zero_le _, by omega, rfl, rfl, ⟨fun _ j hj => absurd hj (Nat.not_lt_zero _), fun _ => rfl⟩, rfl⟩
      case round =>
        obtain ⟨i, bb, hi, hgi, rfl, rfl, AI, rfl⟩ := hrel
        by_cases hil : i < m
        · have hilz : (i : Int) < (m : Int) := by omega
          obtain rfl := h4 (by omega)
          have e1 := H5.out i hil
          have ca : Hid (∀ W, Calls Try.prog 14 #[.int .u32 (g.getD i 0 : Nat), .int .u32 (k : Nat)] W fun e w' => e = .returned (.int .i64 (far (g.getD i 0) k : Nat)) ∧ w' = W) := fun W => HA.out i W hil
          have f32 := F32.out i
          have st : Hid (∀ b2 : Bool, (b2 = true ↔ bb = true ∧ d ≤ far (g.getD i 0) k) → (b2 = true ↔ ∀ j, j < i + 1 → d ≤ far (g.getD j 0) k)) := fun b2 h => by
            rw [h, AI.out]
            constructor
            · intro ⟨q1, q2⟩ j hj
              rcases Nat.lt_succ_iff_lt_or_eq.1 hj with h' | rfl
              · exact q1 j h'
              · exact q2
            · intro q
              exact ⟨fun j hj => q j (by omega), q i (by omega)⟩
          clear ALL GY GN H5 HA F32 h4
          generalize far (g.getD i 0) k = F at *
          generalize g.getD i 0 = y at *
          cases bb with
          | true =>
            have G : Aside (decide (d ≤ F) = true ↔ ∀ j, j < i + 1 → d ≤ far (g.getD j 0) k) := st.out _ (by simp)
            clear st
            go_wp2_with fail
            refine (ca.out _).mono ?_
            rintro e w2 ⟨rfl, rfl⟩
            go_wp2
            go_roundg (m - (i + 1))
            case measure => omega
            case rel => exact ⟨i + 1, decide (d ≤ F), by omega, by omega, by go_num, rfl, G.out, rfl⟩
          | false =>
            have G : Aside (false = true ↔ ∀ j, j < i + 1 → d ≤ far (g.getD j 0) k) := st.out _ (by simp)
            clear st
            go_wp2
            go_roundg (m - (i + 1))
            case measure => omega
            case rel => exact ⟨i + 1, false, by omega, by omega, by go_num, rfl, G.out, rfl⟩
        · obtain rfl : i = m := by omega
          have T := ALL.out bb AI.out
          clear ALL H5 HA F32 AI
          cases bb with
          | true =>
            have NF : Hid (gw d (k + 1) = gw d k ++ [k]) := GN.out T
            clear GY GN T
            go_wp2_with (at_builtin; refine wpList_appendU rfl _ _ rfl w _ (.slice a i c) (by rfl) _ OO.out k (by rfl) hfl.out ?_; intro v' w3 O3; have O3' : Hid (OwnU w w3 v' (gw d (k + 1))) := by (rw [NF.out]; exact O3))
            go_roundg (M - (k + 1))
            case measure => omega
            case rel => exact ⟨k + 1, by omega, by omega, by go_num, O3'.out⟩
          | false =>
            have NF : Hid (gw d (k + 1) = gw d k) := GY.out T
            clear GY GN T
            go_wp2
            go_roundg (M - (k + 1))
            case measure => omega
            case rel => exact ⟨k + 1, by omega, by omega, by go_num, by rw [NF.out]; exact OO.out⟩
    · obtain rfl : k = M := by omega
      have OO : Hid (OwnU w wr u5 (gw d k)) := O.out
      clear O
      go_wp2
      go_ret
      exact ⟨_, rfl, OO.out⟩

end Go.Proofs.Ytfcleenbhadfhab
