/-
  slices.Index of a set bit, elias.readDigits, elias.ReadGamma, elias.ReadDelta: the number that bits begin with.
-/
import Derived.Test.YtenpinjbeejamaaDig
namespace Go.Proofs.Ytenpinjbeejamaa
open Go.RowKit

theorem zr_at : ∀ (l : List Bool) (k : Nat), k < l.length → (∀ i, i < k → l.getD i false = false) → l.getD k false = true → zr l = k
  | [], k, h, _, _ => by simp at h
  | b :: l, 0, _, _, h => by
    have : b = true := by simpa using h
    subst this
    rfl
  | b :: l, k + 1, hk, h1, h2 => by
    have hb : b = false := by simpa using h1 0 (by omega)
    subst hb
    have := zr_at l k (by simpa using hk) (fun i hi => by simpa using h1 (i + 1) (by omega)) (by simpa using h2)
    unfold zr at this ⊢
    rw [List.findIdx_cons]
    simp [this]
theorem zr_none (l : List Bool) (h : ∀ i, i < l.length → l.getD i false = false) : zr l = l.length := by
  unfold zr
  rw [List.findIdx_eq_length]
  intro x hx
  obtain ⟨i, hi, rfl⟩ := List.getElem_of_mem hx
  have := h i hi
  simpa [List.getD_eq_getElem?_getD, hi] using this

/-- Where the first set bit stands, or that there is none. -/
def zi (l : List Bool) : Int := if zr l < l.length then (zr l : Int) else -1

theorem index_any (x : Wd) (w : World) (hx : Bits w x) : Calls Try.prog 22 #[x.v, .bool true] w fun e w' => e = .returned (.int .i64 (zi x.l)) ∧ w' = w := by
  obtain ⟨xa, xc, xl⟩ := x
  obtain ⟨h1, h2, h0, b, o, h3, h4⟩ := hx
  simp only [Wd.v] at *
  unfold maxLen at h2
  have HN : Hid (∀ k, k < xl.length → (∀ i, i < k → xl.getD i false = false) → xl.getD k false = true → zi xl = k) := by
    intro k hk h5 h6
    unfold zi
    rw [zr_at xl k hk h5 h6, if_pos hk]
  have HE : Hid ((∀ i, i < xl.length → xl.getD i false = false) → zi xl = -1) := by
    intro h
    unfold zi
    rw [zr_none xl h, if_neg (by omega)]
  generalize zi xl = r at *
  generalize xl.length = n at *
  obtain ⟨B, hB⟩ : ∃ B : Nat → Bool, B = fun i => xl.getD i false := ⟨_, rfl⟩
  have h4' : ∀ i, i < n → w.cell? ⟨b, o + i, none⟩ = some (.bool (B i)) := by rw [hB]; exact h4
  have HN' : Hid (∀ k, k < n → (∀ i, i < k → B i = false) → B k = true → r = k) := by rw [hB]; exact HN.out
  have HE' : Hid ((∀ i, i < n → B i = false) → r = -1) := by rw [hB]; exact HE.out
  clear h4 HN HE hB
  go_enter Try.func22, Try.ntmps22
  go_wp2
  go_loopg [5, 8] n (fun gg _ v wr => wr = w ∧ ∃ k : Nat, k ≤ n ∧ n - k ≤ gg ∧ v = .int .i64 k ∧ Aside (∀ i, i < k → B i = false))
  case atStart => exact ⟨rfl, 0, Nat.zero_le _, by omega, rfl, fun i hi => absurd hi (Nat.not_lt_zero _)⟩
  case round =>
    obtain ⟨rfl, k, hk, hgg, rfl, A⟩ := hrel
    by_cases hlt : k < n
    · have hltz : (k : Int) < (n : Int) := by omega
      obtain rfl := h3 (by omega)
      have e1 := h4' k hlt
      have Y := A.out
      clear h3 h4'
      cases hy : B k with
      | false =>
        have A2 : Hid (∀ i, i < k + 1 → B i = false) := fun i hi => by
          rcases Nat.lt_succ_iff_lt_or_eq.1 hi with h' | rfl
          · exact Y i h'
          · exact hy
        rw [hy] at e1
        clear A Y hy
        go_wp2
        go_roundg (n - (k + 1))
        case measure => omega
        case rel => exact ⟨rfl, k + 1, by omega, by omega, by go_num, A2.out⟩
      | true =>
        have hr : Hid (r = (k : Int)) := HN'.out k hlt Y hy
        rw [hy] at e1
        clear A Y hy
        go_wp2
        go_ret
        exact ⟨ret_int hr.out.symm, rfl⟩
    · have hr : Hid (r = -1) := HE'.out (fun i hi => A.out i (by omega))
      clear A
      go_wp2
      go_ret
      exact ⟨ret_int hr.out.symm, rfl⟩

/-- What a reader answers. -/
def rv : Option (Nat × Nat) → Value
  | none => .tuple #[.int .i64 0, .int .i64 0, .int .i64 5]
  | some p => .tuple #[.int .i64 (p.1 : Int), .int .i64 (p.2 : Int), .int .i64 0]

theorem rv_some (v e : Nat) (z : Int) (h : z = e) : Value.tuple #[.int .i64 (v : Int), .int .i64 z, .int .i64 0] = rv (some (v, e)) := by subst h; rfl

theorem ret_val {u v : Value} (h : u = v) : Ending.returned u = .returned v := by rw [h]

theorem rd_short {l : List Bool} {s m : Nat} (h : l.length < s + m) : rd l s m = none := if_neg (by omega)
theorem rd_great {l : List Bool} {s m : Nat} (h : 1048576 < vn 1 ((l.drop s).take m)) : rd l s m = none := if_neg (by omega)
theorem rd_fine {l : List Bool} {s m : Nat} (h : s + m ≤ l.length) (h2 : vn 1 ((l.drop s).take m) ≤ 1048576) : rd l s m = some (vn 1 ((l.drop s).take m), s + m) := if_pos ⟨h, h2⟩

set_option maxHeartbeats 2000000 in
theorem readDigits_any (x : Wd) (s m : Nat) (w : World) (hx : Bits w x) (h0 : 0 < x.l.length) (hs : s ≤ x.l.length) (hm : m ≤ 9223372036854775807) :
    Calls Try.prog 23 #[x.v, .int .i64 (s : Int), .int .i64 (m : Int)] w fun e w' => e = .returned (rv (rd x.l s m)) ∧ w' = w := by
  obtain ⟨xa, xc, xl⟩ := x
  obtain ⟨h1, h2, _, b, o, h3, h4⟩ := hx
  simp only [Wd.v] at *
  obtain rfl := h3 h0
  clear h3
  unfold maxLen at h2
  by_cases hsh : xl.length < s + m
  · have hr : Hid (rd xl s m = none) := rd_short hsh
    generalize xl.length = n at *
    generalize rd xl s m = R at *
    have hgt : (m : Int) > (n : Int) - (s : Int) := by omega
    clear h4
    go_enter Try.func23, Try.ntmps23
    go_wp2
    go_ret3
    exact ⟨ret_val (by rw [hr.out]; rfl), rfl⟩
  · have hin : s + m ≤ xl.length := by omega
    have hd1 : ((xl.drop s).take m).length = m := by simp; omega
    have hcell : ∀ i, i < m → w.cell? ⟨b, o + s + i, none⟩ = some (.bool (((xl.drop s).take m).getD i false)) := fun i hi => by
      rw [Nat.add_assoc, h4 (s + i) (by omega)]
      simp [List.getD_eq_getElem?_getD, hi, List.getElem?_drop]
    have F1 : Hid (1048576 < vn 1 ((xl.drop s).take m) → rd xl s m = none) := rd_great
    have F2 : Hid (vn 1 ((xl.drop s).take m) ≤ 1048576 → rd xl s m = some (vn 1 ((xl.drop s).take m), s + m)) := rd_fine hin
    clear h4 hsh
    generalize (xl.drop s).take m = d at *
    generalize rd xl s m = R at *
    have HD : Hid (d.length = m) := hd1
    generalize xl.length = n at *
    have hng : ¬ ((m : Int) > (n : Int) - (s : Int)) := by omega
    have hsz : (s : Int) ≤ (s : Int) + (m : Int) := by omega
    have hez : (s : Int) + (m : Int) ≤ (xc : Int) := by omega
    clear hd1
    have hchk : Hid (∀ (z : Int) W, Calls Try.prog 17 #[.int .i64 z] W fun e w' => e = .returned (.int .i64 (ck z)) ∧ w' = W) := fun z W => check_any z W
    by_cases hm0 : m = 0
    · subst hm0
      have hr : Hid (R = some (1, s)) := by
        have hd0 : d = [] := List.eq_nil_of_length_eq_zero HD.out
        subst hd0
        exact F2.out (by rw [vn_nil]; omega)
      clear hcell F1 F2 HD hchk
      go_enter Try.func23, Try.ntmps23
      go_wp2
      all_goals
        go_loopg [9, 12, 27] 0 (fun gg s9 _ s27 wr => wr = w ∧ s9 = .int .i64 1 ∧ s27 = .int .i64 0)
        case atStart => exact ⟨rfl, rfl, rfl⟩
        case round =>
          obtain ⟨rfl, rfl, rfl⟩ := hrel
          go_wp2
          go_ret3
          exact ⟨ret_val (by rw [hr.out]; rfl), rfl⟩
    · have hcs : ¬ xc = s := by omega
      go_enter Try.func23, Try.ntmps23
      go_wp2
      go_loopg [9, 12, 27] m (fun gg s9 _ s27 wr => wr = w ∧ ∃ k v : Nat, k ≤ m ∧ m - k ≤ gg ∧ 1 ≤ v ∧ v ≤ 1048576 ∧ s9 = .int .i64 v ∧ s27 = .int .i64 k ∧ Hid (v = vn 1 (d.take k)))
      case atStart => exact ⟨rfl, 0, 1, Nat.zero_le _, by omega, by omega, by omega, rfl, rfl, by show 1 = _; simp [vn_nil]⟩
      case round =>
        obtain ⟨rfl, k, v, hk, hgg, hv1, hv, rfl, rfl, A⟩ := hrel
        by_cases hlt : k < m
        · have hltz : (k : Int) < (m : Int) := by omega
          have e1 := hcell k hlt
          clear hcell
          have hnx : Hid (∀ bt, d.getD k false = bt → vn 1 (d.take (k + 1)) = 2 * v + bt.toNat) := by
            rintro bt rfl
            have hkd : k < d.length := by rw [HD.out]; exact hlt
            rw [List.take_succ_eq_append_getElem hkd, vn_snoc, ← A.out]
            simp [List.getD_eq_getElem?_getD, hkd]
          have hbig : Hid (1048576 < vn 1 (d.take (k + 1)) → R = none) := fun h => F1.out (by
            have h5 : vn 1 d = vn (vn 1 (d.take (k + 1))) (d.drop (k + 1)) := by rw [← vn_append, List.take_append_drop]
            have h6 := vn_le (vn 1 (d.take (k + 1))) (d.drop (k + 1))
            omega)
          cases hb : d.getD k false with
          | false =>
            rw [hb] at e1
            have hn2 : Hid (vn 1 (d.take (k + 1)) = 2 * v) := by
              have := hnx.out false hb
              show _ = _
              simpa using this
            clear hnx hb A F1 F2
            by_cases hgr : 2 * v ≤ 1048576
            · have hc : Hid (ck ((v : Int) * 2) = 0) := if_pos (by omega)
              go_wp2_with fail
              refine (hchk.out _ _).mono ?_
              rintro e w1 ⟨rfl, rfl⟩
              rw [hc.out]
              go_wp2
              go_roundg (m - (k + 1))
              case measure => omega
              case rel => exact ⟨rfl, k + 1, 2 * v, by omega, by omega, by omega, hgr, by go_num, by go_num, hn2.out.symm⟩
            · have hc : Hid (ck ((v : Int) * 2) = 4) := if_neg (by omega)
              have hr : Hid (R = none) := hbig.out (by rw [hn2.out]; omega)
              go_wp2_with fail
              refine (hchk.out _ _).mono ?_
              rintro e w1 ⟨rfl, rfl⟩
              rw [hc.out]
              go_wp2
              go_ret3
              exact ⟨ret_val (by rw [hr.out]; rfl), rfl⟩
          | true =>
            rw [hb] at e1
            have hn2 : Hid (vn 1 (d.take (k + 1)) = 2 * v + 1) := by
              have := hnx.out true hb
              show _ = _
              simpa using this
            clear hnx hb A F1 F2
            by_cases hgr : 2 * v + 1 ≤ 1048576
            · have hc : Hid (ck ((v : Int) * 2 + 1) = 0) := if_pos (by omega)
              go_wp2_with fail
              refine (hchk.out _ _).mono ?_
              rintro e w1 ⟨rfl, rfl⟩
              rw [hc.out]
              go_wp2
              go_roundg (m - (k + 1))
              case measure => omega
              case rel => exact ⟨rfl, k + 1, 2 * v + 1, by omega, by omega, by omega, hgr, by go_num, by go_num, hn2.out.symm⟩
            · have hc : Hid (ck ((v : Int) * 2 + 1) = 4) := if_neg (by omega)
              have hr : Hid (R = none) := hbig.out (by rw [hn2.out]; omega)
              go_wp2_with fail
              refine (hchk.out _ _).mono ?_
              rintro e w1 ⟨rfl, rfl⟩
              rw [hc.out]
              go_wp2
              go_ret3
              exact ⟨ret_val (by rw [hr.out]; rfl), rfl⟩
        · have hr : Hid (R = some (v, s + m)) := by
            have hkm : k = m := by omega
            have e2 : v = vn 1 d := by rw [A.out, hkm, ← HD.out, List.take_length]
            show R = _
            rw [e2]
            exact F2.out (by omega)
          clear A F1 F2 hcell
          go_wp2
          go_ret3
          exact ⟨ret_val (by rw [hr.out]; exact rv_some _ _ _ (by omega)), rfl⟩

set_option maxHeartbeats 2000000 in
theorem readGamma_any (x : Wd) (w : World) (hx : Bits w x) : Calls Try.prog 14 #[x.v] w fun e w' => e = .returned (rv (rdG x.l)) ∧ w' = w := by
  have hi := index_any x w hx
  by_cases hz : zr x.l < x.l.length
  · have hr := readDigits_any x (zr x.l + 1) (zr x.l) w hx (by omega) (by omega) (by have := hx.1; have := hx.2.1; unfold maxLen at this; omega)
    have e1 : rdG x.l = rd x.l (zr x.l + 1) (zr x.l) := if_pos hz
    rw [show zi x.l = (zr x.l : Int) from if_pos hz] at hi
    rw [e1]
    rw [Int.natCast_add, Int.natCast_one] at hr
    have hzm : zr x.l + 1 ≤ maxLen := by have := hx.1; have := hx.2.1; omega
    unfold maxLen at hzm
    clear hx hz e1
    obtain ⟨xa, xc, xl⟩ := x
    simp only [Wd.v] at *
    generalize zr xl = z at *
    generalize rd xl (z + 1) z = R at *
    generalize xl.length = n at *
    cases R with
    | none =>
      simp only [rv] at hr ⊢
      go_enter Try.func14, Try.ntmps14
      go_wp2_with fail
      refine hi.mono ?_
      rintro e w1 ⟨rfl, rfl⟩
      go_wp2_with fail
      refine hr.mono ?_
      rintro e w1 ⟨rfl, rfl⟩
      go_wp2
      go_ret3
      exact ⟨rfl, rfl⟩
    | some p =>
      simp only [rv] at hr ⊢
      go_enter Try.func14, Try.ntmps14
      go_wp2_with fail
      refine hi.mono ?_
      rintro e w1 ⟨rfl, rfl⟩
      go_wp2_with fail
      refine hr.mono ?_
      rintro e w1 ⟨rfl, rfl⟩
      go_wp2
      go_ret3
      exact ⟨rfl, rfl⟩
  · have e1 : rdG x.l = none := if_neg hz
    rw [show zi x.l = -1 from if_neg hz] at hi
    rw [e1]
    clear hx hz e1
    obtain ⟨xa, xc, xl⟩ := x
    simp only [Wd.v, rv] at *
    generalize xl.length = n at *
    go_enter Try.func14, Try.ntmps14
    go_wp2_with fail
    refine hi.mono ?_
    rintro e w1 ⟨rfl, rfl⟩
    go_wp2
    go_ret3
    exact ⟨rfl, rfl⟩

set_option maxHeartbeats 2000000 in
theorem readDelta_any (x : Wd) (w : World) (hx : Bits w x) : Calls Try.prog 16 #[x.v] w fun e w' => e = .returned (rv (rdD x.l)) ∧ w' = w := by
  have hg := readGamma_any x w hx
  unfold rdD
  cases hG : rdG x.l with
  | none =>
    rw [hG] at hg
    clear hx hG
    obtain ⟨xa, xc, xl⟩ := x
    simp only [Wd.v, rv, Option.bind_none] at *
    generalize xl.length = n at *
    go_enter Try.func16, Try.ntmps16
    go_wp2_with fail
    refine hg.mono ?_
    rintro e w1 ⟨rfl, rfl⟩
    go_wp2
    go_ret3
    exact ⟨rfl, rfl⟩
  | some p =>
    obtain ⟨c, u⟩ := p
    obtain ⟨g1, g2, g3, g4, _⟩ := rdG_some hG
    have hr := readDigits_any x u (c - 1) w hx (by omega) g4 (by omega)
    rw [hG] at hg
    have hc1 : ((c - 1 : Nat) : Int) = (c : Int) - 1 := by omega
    rw [hc1] at hr
    clear hx hG hc1
    rw [Option.bind_some]
    obtain ⟨xa, xc, xl⟩ := x
    simp only [Wd.v] at *
    have hg' : Calls Try.prog 14 #[.slice xa xl.length xc] w fun e w' => e = .returned (.tuple #[.int .i64 (c : Int), .int .i64 (u : Int), .int .i64 0]) ∧ w' = w := hg
    clear hg
    generalize rd xl u (c - 1) = R at *
    generalize xl.length = n at *
    cases R with
    | none =>
      simp only [rv] at hr ⊢
      go_enter Try.func16, Try.ntmps16
      go_wp2_with fail
      refine hg'.mono ?_
      rintro e w1 ⟨rfl, rfl⟩
      go_wp2_with fail
      refine hr.mono ?_
      rintro e w1 ⟨rfl, rfl⟩
      go_wp2
      go_ret3
      exact ⟨rfl, rfl⟩
    | some p =>
      simp only [rv] at hr ⊢
      go_enter Try.func16, Try.ntmps16
      go_wp2_with fail
      refine hg'.mono ?_
      rintro e w1 ⟨rfl, rfl⟩
      go_wp2_with fail
      refine hr.mono ?_
      rintro e w1 ⟨rfl, rfl⟩
      go_wp2
      go_ret3
      exact ⟨rfl, rfl⟩

end Go.Proofs.Ytenpinjbeejamaa
