/-
  quipuref.ahead of two texts of one length.
-/
import Derived.Test.YtkccdhidmihekaaEq
import Derived.Test.YtkccdhidmihekaaBw
namespace Go.Proofs.Ytkccdhidmihekaa
open Go.RowKit

theorem ah_at : ∀ {u v : List Int} {i : Nat}, i < u.length → i < v.length → (∀ j, j < i → u.getD j 0 = v.getD j 0) → u.getD i 0 ≠ v.getD i 0 → ah u v = decide (u.getD i 0 < v.getD i 0)
  | [], _, _, h, _, _, _ => by simp at h
  | _ :: _, [], _, _, h, _, _ => by simp at h
  | a :: u, b :: v, 0, _, _, _, h => by
    simp at h
    rw [ah, if_neg h]
    simp
  | a :: u, b :: v, i + 1, h1, h2, h3, h4 => by
    have h0 := h3 0 (by omega)
    simp at h0
    subst h0
    rw [ah, if_pos rfl]
    have := ah_at (u := u) (v := v) (i := i) (by simpa using h1) (by simpa using h2) (fun j hj => by simpa using h3 (j + 1) (by omega)) (by simpa using h4)
    simpa using this

set_option maxHeartbeats 1000000 in
theorem ahead_any (x y : Wd) (w : World) (hx : Bits w x) (hy : Bits w y) (hl : x.l.length = y.l.length) :
    Calls Try.prog 21 #[x.v, y.v] w fun e w' => e = .returned (.bool (ah x.l y.l)) ∧ ∃ m, w' = w.drewN m := by
  obtain ⟨xa, xc, xl⟩ := x
  obtain ⟨ya, yc, yl⟩ := y
  obtain ⟨h1, h2, _, b1, o1, h3, h4⟩ := hx
  obtain ⟨k1, k2, _, b2, o2, k3, k4⟩ := hy
  simp only [Wd.v] at *
  unfold maxLen at h2 k2
  have HD : Hid (∀ i, i < xl.length → (∀ j, j < i → xl.getD j 0 = yl.getD j 0) → xl.getD i 0 ≠ yl.getD i 0 → ah xl yl = decide (xl.getD i 0 < yl.getD i 0)) := fun i hi a1 a2 => ah_at hi (by omega) a1 a2
  have HS : Hid ((∀ j, j < xl.length → xl.getD j 0 = yl.getD j 0) → ah xl yl = false) := by
    intro h
    rw [ext_getD hl h]
    exact ah_irrefl _
  obtain ⟨n, hn⟩ : ∃ n, xl.length = n := ⟨_, rfl⟩
  rw [← hl] at k1 k3 k4 ⊢
  rw [hn] at h1 h3 h4 k1 k3 k4 HD HS ⊢
  have H4 : Hid (∀ i, i < n → w.cell? ⟨b1, o1 + i, none⟩ = some (.int .u8 (xl.getD i 0))) := h4
  have K4 : Hid (∀ i, i < n → w.cell? ⟨b2, o2 + i, none⟩ = some (.int .u8 (yl.getD i 0))) := k4
  generalize ah xl yl = r at *
  clear h4 k4 hl hn
  go_enter Try.func21, Try.ntmps21
  go_wp2
  go_loopg [5] n (fun gg s wr => ∃ k : Nat, k ≤ n ∧ n - k ≤ gg ∧ s = .int .i64 k ∧ Aside (Qt w wr) ∧ Aside (∀ j, j < k → xl.getD j 0 = yl.getD j 0))
  case atStart => exact ⟨0, by omega, by omega, rfl, Qt.refl w, fun j hj => absurd hj (Nat.not_lt_zero _)⟩
  case round =>
    obtain ⟨k, hk, hgg, rfl, BW, A⟩ := hrel
    by_cases hlt : k < n
    · have hltz : (k : Int) < (n : Int) := by omega
      obtain rfl := h3 (by omega)
      obtain rfl := k3 (by omega)
      have e1 := BW.out.cell (H4.out k hlt)
      have e2 := BW.out.cell (K4.out k hlt)
      have D1 : Hid (xl.getD k 0 ≠ yl.getD k 0 → r = decide (xl.getD k 0 < yl.getD k 0)) := HD.out k hlt A.out
      have G1 : Hid (xl.getD k 0 = yl.getD k 0 → ∀ j, j < k + 1 → xl.getD j 0 = yl.getD j 0) := fun h j hj => by
        rcases Nat.lt_succ_iff_lt_or_eq.1 hj with h' | rfl
        · exact A.out j h'
        · exact h
      clear HD HS A H4 K4
      generalize xl.getD k 0 = p at *
      generalize yl.getD k 0 = q at *
      clear h3 k3
      by_cases hpq : p = q
      · have G2 : Hid (∀ j, j < k + 1 → xl.getD j 0 = yl.getD j 0) := G1.out hpq
        subst hpq
        clear G1 D1
        go_wp2
        go_quiet (fail)
        go_wp2
        go_roundg (n - (k + 1))
        case measure => omega
        case rel => exact ⟨k + 1, by omega, by omega, by go_num, BW.out.trans ⟨_, rfl⟩, G2.out⟩
      · have D2 : Hid (r = decide (p < q)) := D1.out hpq
        have hne : (p != q) = true := by simp [hpq]
        clear D1 G1
        go_wp2
        go_quiet (fail)
        go_wp2
        go_quiet (fail)
        go_wp2
        go_ret
        refine ⟨ret_bool D2.out.symm, ?_⟩
        exact BW.out.trans (Qt.trans ⟨_, rfl⟩ ⟨_, rfl⟩)
    · have F : Hid (r = false) := HS.out (fun j hj => A.out j (by omega))
      clear A HD HS
      go_wp2
      go_ret
      exact ⟨ret_bool (by rw [F.out]), BW.out⟩

end Go.Proofs.Ytkccdhidmihekaa
