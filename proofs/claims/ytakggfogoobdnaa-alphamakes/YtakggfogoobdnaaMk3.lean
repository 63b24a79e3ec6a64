/-
  quipuref.LensCheck; quipuref.Rises.
-/
import Derived.Test.YtakggfogoobdnaaSum
import Derived.Test.YtakggfogoobdnaaMk2
namespace Go.Proofs.Ytakggfogoobdnaa
open Go.RowKit

set_option maxHeartbeats 1000000 in
theorem lensCheck_any (z : Nm) (w : World) (hz : Nums w z) :
    Calls Try.prog 15 #[z.v] w fun e w' => e = .returned (.int .i64 (lerl z.z)) ∧ w' = w := by
  obtain ⟨k1, k2, _, zb, zo, k4, k5⟩ := hz
  obtain ⟨za, zc, zz⟩ := z
  simp only [Nm.v] at *
  by_cases h : 8 < zz.length
  · rw [lerl_long h]
    clear k5
    generalize zz.length = m at *
    have hz : (8 : Int) < (m : Int) := by omega
    go_enter Try.func15, Try.ntmps15
    go_wp2
    go_ret
    exact ⟨rfl, rfl⟩
  · have R : ∃ r, lerl zz = r := ⟨_, rfl⟩
    obtain ⟨r, hr⟩ := R
    have HR : Hid (lerl zz = r) := hr
    rw [hr]
    clear hr
    have H8 : Hid (zz.length ≤ 8) := Nat.le_of_not_lt h
    obtain ⟨m, hm⟩ : ∃ m, zz.length = m := ⟨_, rfl⟩
    have HM : Hid (zz.length = m) := hm
    have K5 : Hid (∀ i (h : i < zz.length), w.cell? ⟨zb, zo + i, none⟩ = some (.int .i64 zz[i])) := fun i h => by
      have := k5 i h
      rwa [List.getD_eq_getElem?_getD, List.getElem?_eq_getElem h] at this
    unfold maxLen at k2
    rw [hm] at k1 k4 h ⊢
    have hz : ¬ (8 : Int) < (m : Int) := by omega
    clear hm k5
    go_enter Try.func15, Try.ntmps15
    go_wp2
    go_loopg [4, 10] m (fun gg _ s wr => wr = w ∧ ∃ k : Nat, k ≤ m ∧ m - k ≤ gg ∧ s = .int .i64 k ∧ Aside (∀ j (hj : j < zz.length), j < k → outB zz[j] = false))
    case atStart => exact ⟨rfl, 0, Nat.zero_le _, by omega, rfl, fun j hj h => absurd h (Nat.not_lt_zero _)⟩
    case round =>
      obtain ⟨rfl, k, hk, hgg, rfl, A⟩ := hrel
      by_cases hlt : k < m
      · have hltz : (k : Int) < (m : Int) := by omega
        obtain rfl := k4 (by omega)
        have hkl : k < zz.length := by rw [HM.out]; exact hlt
        have e1 := K5.out k hkl
        have bad : Aside (outB zz[k] = true → r = 4) := fun h => by
          rw [← HR.out]
          exact lerl_any H8.out (List.any_eq_true.2 ⟨zz[k], List.getElem_mem hkl, h⟩)
        have good : Aside (outB zz[k] = false → ∀ j (hj : j < zz.length), j < k + 1 → outB zz[j] = false) := fun h j hj hj' => by
          rcases Nat.lt_succ_iff_lt_or_eq.1 hj' with h' | rfl
          · exact A.out j hj h'
          · exact h
        generalize hy : zz[k] = y at e1 bad good
        clear h k4 hy
        by_cases y0 : y < 0
        · have bd : Hid (r = 4) := bad.out (by simp [outB, y0])
          clear bad good
          go_wp2
          go_ret
          exact ⟨ret_int bd.out.symm, rfl⟩
        · by_cases y8 : 8 < y
          · have bd : Hid (r = 4) := bad.out (by simp [outB, y8])
            clear bad good
            go_wp2
            go_ret
            exact ⟨ret_int bd.out.symm, rfl⟩
          · have gd : Hid (∀ j (hj : j < zz.length), j < k + 1 → outB zz[j] = false) := good.out (by simp [outB]; omega)
            clear bad good
            go_wp2
            go_roundg (m - (k + 1))
            case measure => omega
            case rel => exact ⟨rfl, k + 1, by omega, by omega, by go_num, gd.out⟩
      · have fin : Hid (r = 0) := by
          show _ = _
          rw [← HR.out]
          refine lerl_ok H8.out (List.any_eq_false.2 (fun x hx => ?_))
          obtain ⟨j, hj, rfl⟩ := List.mem_iff_getElem.1 hx
          have := A.out j hj (by have := HM.out; omega)
          simpa using this
        go_wp2
        go_ret
        exact ⟨ret_int fin.out.symm, rfl⟩

theorem rsB_drop (u v : List Bool) (k : Nat) (h1 : k < u.length) (h2 : k < v.length) : rsB (u.drop k) (v.drop k) = if u[k] = v[k] then rsB (u.drop (k + 1)) (v.drop (k + 1)) else v[k] := by
  rw [List.drop_eq_getElem_cons h1, List.drop_eq_getElem_cons h2]
  rfl
theorem rsB_nil_left (v : List Bool) : rsB [] v = false := by cases v <;> rfl
theorem rsB_nil_right (u : List Bool) : rsB u [] = false := by cases u <;> rfl

set_option maxHeartbeats 2000000 in
theorem rises_any (x y : Wd) (w : World) (hx : Bits w x) (hy : Bits w y) :
    Calls Try.prog 20 #[x.v, y.v] w fun e w' => e = .returned (.bool (rsB x.l y.l)) ∧ Qt w w' := by
  obtain ⟨xa, xc, xl⟩ := x
  obtain ⟨ya, yc, yl⟩ := y
  obtain ⟨p1, p2, _, pb, po, p4, p5⟩ := hx
  obtain ⟨q1, q2, _, qb, qo, q4, q5⟩ := hy
  simp only [Wd.v] at *
  unfold maxLen at p2 q2
  have P5 : Hid (∀ i, i < xl.length → w.cell? ⟨pb, po + i, none⟩ = some (.bool (xl.getD i false))) := p5
  have Q5 : Hid (∀ i, i < yl.length → w.cell? ⟨qb, qo + i, none⟩ = some (.bool (yl.getD i false))) := q5
  obtain ⟨n, hn⟩ : ∃ n, xl.length = n := ⟨_, rfl⟩
  obtain ⟨m, hm⟩ : ∃ m, yl.length = m := ⟨_, rfl⟩
  have HN : Hid (xl.length = n) := hn
  have HM : Hid (yl.length = m) := hm
  rw [hn] at p1 p4 P5 ⊢
  rw [hm] at q1 q4 Q5 ⊢
  obtain ⟨r, hr⟩ : ∃ r, rsB xl yl = r := ⟨_, rfl⟩
  have HR : Hid (rsB (xl.drop 0) (yl.drop 0) = r) := hr
  rw [hr]
  clear hn hm hr p5 q5
  go_enter Try.func20, Try.ntmps20
  go_wp2
  go_loopg [5] n (fun gg s wr => ∃ k : Nat, k ≤ n ∧ n - k ≤ gg ∧ s = .int .i64 k ∧ Aside (rsB (xl.drop k) (yl.drop k) = r) ∧ Aside (Qt w wr))
  case atStart => exact ⟨0, by omega, by omega, rfl, HR.out, Qt.refl w⟩
  case round =>
    obtain ⟨k, hk, hgg, rfl, A, QW⟩ := hrel
    by_cases hlt : k < n
    · have hltz : (k : Int) < (n : Int) := by omega
      by_cases hlm : k < m
      · have hlmz : (k : Int) < (m : Int) := by omega
        obtain rfl := p4 (by omega)
        obtain rfl := q4 (by omega)
        have e1 := QW.out.cell (P5.out k hlt)
        have e2 := QW.out.cell (Q5.out k hlm)
        have hx : k < xl.length := by rw [HN.out]; exact hlt
        have hy : k < yl.length := by rw [HM.out]; exact hlm
        have g1 : xl.getD k false = xl[k] := by simp [List.getD_eq_getElem?_getD, hx]
        have g2 : yl.getD k false = yl[k] := by simp [List.getD_eq_getElem?_getD, hy]
        have hs := A.out
        rw [rsB_drop xl yl k hx hy, ← g1, ← g2] at hs
        clear A g1 g2 hx hy
        generalize xl.getD k false = u at *
        generalize yl.getD k false = v at *
        by_cases huv : u = v
        · subst huv
          rw [if_pos rfl] at hs
          have HS : Hid (rsB (xl.drop (k + 1)) (yl.drop (k + 1)) = r) := hs
          have hb : (u != u) = false := by simp
          clear hs
          go_wp2
          go_quiet (fail)
          go_wp2
          go_roundg (n - (k + 1))
          case measure => omega
          case rel => exact ⟨k + 1, by omega, by omega, by go_num, HS.out, QW.out.drewN _⟩
        · rw [if_neg huv] at hs
          have HS : Hid (v = r) := hs
          clear hs
          cases u with
          | true =>
            obtain rfl : v = false := by simpa using huv
            clear huv
            go_wp2
            go_quiet (fail)
            go_wp2
            go_ret
            exact ⟨ret_bool HS.out, QW.out.drewN _⟩
          | false =>
            obtain rfl : v = true := by simpa using huv
            clear huv
            go_wp2
            go_quiet (fail)
            go_wp2
            go_ret
            exact ⟨ret_bool HS.out, QW.out.drewN _⟩
      · have hlmz : ¬ (k : Int) < (m : Int) := by omega
        have hs := A.out
        have ey : yl.drop k = [] := List.drop_eq_nil_of_le (by rw [HM.out]; omega)
        rw [ey, rsB_nil_right] at hs
        have HS : Hid (false = r) := hs
        clear A hs
        go_wp2
        go_ret
        exact ⟨ret_bool HS.out, QW.out⟩
    · have hltz : ¬ (k : Int) < (n : Int) := by omega
      have hs := A.out
      have ex : xl.drop k = [] := List.drop_eq_nil_of_le (by rw [HN.out]; omega)
      rw [ex, rsB_nil_left] at hs
      have HS : Hid (false = r) := hs
      clear A hs
      go_wp2
      go_ret
      exact ⟨ret_bool HS.out, QW.out⟩

end Go.Proofs.Ytakggfogoobdnaa
