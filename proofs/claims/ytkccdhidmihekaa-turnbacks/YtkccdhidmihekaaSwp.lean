/-
  slices.swapRangeCmpFunc and slices.rotateCmpFunc over numbers.
-/
import Derived.Test.YtkccdhidmihekaaKb
import Derived.Test.YtkccdhidmihekaaChecked
import Derived.RegionTactic
import Derived.BigRegion
namespace Go.Proofs.Ytkccdhidmihekaa
open Go.RowKit

theorem set_midV (A B : List Value) (u v : Value) (k : Nat) (hk : k = A.length) : (A ++ u :: B).set k v = A ++ v :: B := by
  subst hk; simp

theorem Row.at {w : World} {B : Nat} {P T : List Int} {u : Int} {k : Nat} (h : Row w B 3 (iv (P ++ u :: T))) (hk : k = P.length) : w.cell? ⟨B, k, none⟩ = some (.int .i64 u) := by
  subst hk
  have := h.cell P.length (by simp)
  simpa using this

/-- Two numbers change their places. -/
theorem Row.swap2 {w : World} {B : Nat} {P M T : List Int} {u v : Int} (h : Row w B 3 (iv (P ++ u :: (M ++ v :: T)))) {i j : Nat} (hi : i = P.length) (hj : j = P.length + 1 + M.length) :
    Row ((w.setCell ⟨B, i, none⟩ (.int .i64 v)).setCell ⟨B, j, none⟩ (.int .i64 u)) B 3 (iv (P ++ v :: (M ++ u :: T))) := by
  have := (h.set i (.int .i64 v)).set j (.int .i64 u)
  have e1 : (iv (P ++ u :: (M ++ v :: T))).set i (.int .i64 v) = iv P ++ .int .i64 v :: iv (M ++ v :: T) := by
    have := set_midV (iv P) (iv (M ++ v :: T)) (.int .i64 u) (.int .i64 v) i (by simp [hi])
    simpa using this
  have e2 : (iv P ++ .int .i64 v :: iv (M ++ v :: T)).set j (.int .i64 u) = iv (P ++ v :: (M ++ u :: T)) := by
    have := set_midV (iv P ++ .int .i64 v :: iv M) (iv T) (.int .i64 v) (.int .i64 u) j (by simp [hj]; omega)
    simpa using this
  rw [e1, e2] at this
  exact this

/-- The parts, so far swapped. -/
def sw (p x q y r : List Int) (i : Nat) : List Int := p ++ y.take i ++ x.drop i ++ q ++ x.take i ++ y.drop i ++ r

theorem sw_split {p x q y r : List Int} {i : Nat} (hx : i < x.length) (hy : i < y.length) :
    sw p x q y r i = (p ++ y.take i) ++ x[i] :: ((x.drop (i + 1) ++ q ++ x.take i) ++ y[i] :: (y.drop (i + 1) ++ r)) ∧
    sw p x q y r (i + 1) = (p ++ y.take i) ++ y[i] :: ((x.drop (i + 1) ++ q ++ x.take i) ++ x[i] :: (y.drop (i + 1) ++ r)) := by
  unfold sw
  constructor
  · rw [List.drop_eq_getElem_cons hx, List.drop_eq_getElem_cons hy]
    simp only [List.append_assoc, List.cons_append]
  · rw [List.take_succ_eq_append_getElem hx, List.take_succ_eq_append_getElem hy]
    simp only [List.append_assoc, List.cons_append, List.nil_append]

set_option maxHeartbeats 2000000 in
theorem swapRange_any (B c n a b m : Nat) (fv : Value) (p x q y r : List Int) (w : World) (hr : Row w B 3 (iv (p ++ x ++ q ++ y ++ r))) (hxy : x.length = y.length) (hn : (p ++ x ++ q ++ y ++ r).length = n) (hn2 : n ≤ 1000)
    (ha : p.length = a) (hb : p.length + x.length + q.length = b) (hm : x.length = m) :
    Calls Try.prog 45 #[.slice (some ⟨B, 0, none⟩) n c, .int .i64 a, .int .i64 b, .int .i64 m, fv] w fun e w' => e = .returned (.tuple #[]) ∧ Hid (Row w' B 3 (iv (p ++ y ++ q ++ x ++ r))) ∧ Hid (KB B w w') := by
  have HX : Hid (x.length = m) := hm
  have HY : Hid (y.length = m) := by show _ = _; omega
  have HA : Hid (p.length = a) := ha
  have HB : Hid (a + m + q.length = b) := by show _ = _; omega
  have R0 : Hid (Row w B 3 (iv (sw p x q y r 0))) := by
    show Row _ _ _ _
    simpa [sw] using hr
  have RE : Hid (sw p x q y r m = p ++ y ++ q ++ x ++ r) := by
    show _ = _
    unfold sw
    rw [List.take_of_length_le (by omega), List.take_of_length_le (by omega), List.drop_eq_nil_of_le (by omega), List.drop_eq_nil_of_le (by omega)]
    simp
  have hbn : b + m ≤ n := by
    have := HB.out
    simp at hn
    omega
  have ham : a + m ≤ b := by have := HB.out; omega
  clear hr hxy hn ha hb hm
  go_enter Try.func45, Try.ntmps45
  go_wp2
  go_loopg [10] m (fun gg s wr => ∃ i : Nat, i ≤ m ∧ m - i ≤ gg ∧ s = .int .i64 i ∧ Aside (KB B w wr) ∧ Aside (Row wr B 3 (iv (sw p x q y r i))))
  case atStart => exact ⟨0, by omega, by omega, rfl, KB.refl _ _, R0.out⟩
  case round =>
    obtain ⟨i, hi, hgg, rfl, BW, A⟩ := hrel
    clear R0
    by_cases hlt : i < m
    · have hltz : (i : Int) < (m : Int) := by omega
      have hix : i < x.length := by rw [HX.out]; exact hlt
      have hiy : i < y.length := by rw [HY.out]; exact hlt
      obtain ⟨s1, s2⟩ := sw_split (p := p) (q := q) (r := r) hix hiy
      have hR := A.out
      rw [s1] at hR
      have l1 : a + i = (p ++ y.take i).length := by
        rw [List.length_append, HA.out, List.length_take, HY.out]; omega
      have l2 : b + i = (p ++ y.take i).length + 1 + (x.drop (i + 1) ++ q ++ x.take i).length := by
        rw [← l1]
        simp only [List.length_append, List.length_drop, List.length_take, HX.out]
        have := HB.out
        omega
      have c1 := hR.at l1
      have c2 : wr.cell? ⟨B, b + i, none⟩ = some (.int .i64 y[i]) := by
        have : sw p x q y r i = ((p ++ y.take i) ++ x[i] :: (x.drop (i + 1) ++ q ++ x.take i)) ++ y[i] :: (y.drop (i + 1) ++ r) := by
          rw [s1]; simp
        have h2 := A.out
        rw [this] at h2
        exact h2.at (by rw [List.length_append, List.length_cons]; omega)
      have f1 := hR.fr (a + i)
      have f2 := hR.fr (b + i)
      have SW : Hid (Row ((wr.setCell ⟨B, a + i, none⟩ (.int .i64 y[i])).setCell ⟨B, b + i, none⟩ (.int .i64 x[i])) B 3 (iv (sw p x q y r (i + 1)))) := by
        have := hR.swap2 l1 l2
        rw [s2]
        exact this
      have KK : Hid (KB B w ((wr.setCell ⟨B, a + i, none⟩ (.int .i64 y[i])).setCell ⟨B, b + i, none⟩ (.int .i64 x[i]))) := (BW.out.setCell _).setCell _
      have h1 : (a : Int) + (i : Int) < (n : Int) := by omega
      have h2 : (b : Int) + (i : Int) < (n : Int) := by omega
      clear hR s1 s2 l1 l2 A BW RE
      generalize x[i] = u at *
      generalize y[i] = v at *
      go_wp2
      go_region
      go_wp2
      go_roundg (m - (i + 1))
      case measure => omega
      case rel => exact ⟨i + 1, by omega, by omega, by go_num, KK.out.trans (KB.of_ext (ext_drew _)), SW.out.ext (ext_drew _)⟩
    · have : i = m := by omega
      subst this
      have F : Hid (Row wr B 3 (iv (p ++ y ++ q ++ x ++ r))) := by rw [← RE.out]; exact A.out
      clear A
      go_wp2
      go_end0
      exact ⟨rfl, F, BW.out⟩

set_option maxHeartbeats 2000000 in
theorem rotate_any (B c n a m b : Nat) (fv : Value) (P X Y R : List Int) (w : World) (hr : Row w B 3 (iv (P ++ X ++ Y ++ R))) (hn : (P ++ X ++ Y ++ R).length = n) (hn2 : n ≤ 1000)
    (ha : P.length = a) (hm : P.length + X.length = m) (hb : P.length + X.length + Y.length = b) (hX : 0 < X.length) (hY : 0 < Y.length) :
    Calls Try.prog 44 #[.slice (some ⟨B, 0, none⟩) n c, .int .i64 a, .int .i64 m, .int .i64 b, fv] w fun e w' => e = .returned (.tuple #[]) ∧ Hid (Row w' B 3 (iv (P ++ Y ++ X ++ R))) ∧ Hid (KB B w w') := by
  have HS : Hid (∀ (W : World) (i j k : Nat) (p x q y r : List Int), Row W B 3 (iv (p ++ x ++ q ++ y ++ r)) → x.length = y.length → (p ++ x ++ q ++ y ++ r).length = n → p.length = i → p.length + x.length + q.length = j → x.length = k →
      Calls Try.prog 45 #[.slice (some ⟨B, 0, none⟩) n c, .int .i64 i, .int .i64 j, .int .i64 k, fv] W fun e w' => e = .returned (.tuple #[]) ∧ Hid (Row w' B 3 (iv (p ++ y ++ q ++ x ++ r))) ∧ Hid (KB B W w')) :=
    fun W i j k p x q y r h1 h2 h3 h4 h5 h6 => swapRange_any B c n i j k fv p x q y r W h1 h2 h3 hn2 h4 h5 h6
  have R0 : Hid (∃ P' X' Y' R' : List Int, P'.length + X'.length = m ∧ X'.length = X.length ∧ Y'.length = Y.length ∧ (P' ++ X' ++ Y' ++ R').length = n ∧ Row w B 3 (iv (P' ++ X' ++ Y' ++ R')) ∧ P' ++ Y' ++ X' ++ R' = P ++ Y ++ X ++ R) := ⟨P, X, Y, R, hm, rfl, rfl, hn, hr, rfl⟩
  have hma : m - a = X.length := by omega
  have hbm : b - m = Y.length := by omega
  have hbn : b ≤ n := by simp at hn; omega
  have hmb : m ≤ b := by omega
  have ham : a ≤ m := by omega
  clear hr hn ha hm hb
  generalize P ++ Y ++ X ++ R = T at *
  obtain ⟨I, hI⟩ : ∃ I, X.length = I := ⟨_, rfl⟩
  obtain ⟨J, hJ⟩ : ∃ J, Y.length = J := ⟨_, rfl⟩
  rw [hI] at hma hX R0
  rw [hJ] at hbm hY R0
  clear hI hJ
  have z1 : (m : Int) - (a : Int) = (I : Int) := by omega
  have z2 : (b : Int) - (m : Int) = (J : Int) := by omega
  clear hma hbm
  go_enter Try.func44, Try.ntmps44
  go_wp2
  go_loopg [10, 11] (I + J) (fun gg s10 s11 wr => ∃ i j : Nat, 0 < i ∧ 0 < j ∧ i ≤ m ∧ j ≤ n ∧ i + j ≤ gg ∧ s10 = .int .i64 i ∧ s11 = .int .i64 j ∧ Aside (KB B w wr) ∧
    Aside (∃ P' X' Y' R' : List Int, P'.length + X'.length = m ∧ X'.length = i ∧ Y'.length = j ∧ (P' ++ X' ++ Y' ++ R').length = n ∧ Row wr B 3 (iv (P' ++ X' ++ Y' ++ R')) ∧ P' ++ Y' ++ X' ++ R' = T))
  case atStart => exact ⟨I, J, hX, hY, by omega, by omega, by omega, rfl, rfl, KB.refl _ _, R0.out⟩
  case round =>
    obtain ⟨i, j, hi, hj, him, hjn, hgg, rfl, rfl, BW, A⟩ := hrel
    clear R0 z1 z2
    obtain ⟨P', X', Y', R', p1, p2, p3, p4, p5, p6⟩ := A.out
    clear A
    rcases Nat.lt_trichotomy i j with hij | hij | hij
    · have hne : ((i : Int) != (j : Int)) = true := by simp; omega
      have hng : ¬ (i : Int) > (j : Int) := by omega
      have eY : Y' = Y'.take (j - i) ++ Y'.drop (j - i) := (List.take_append_drop _ _).symm
      have l1 : (Y'.take (j - i)).length = j - i := by rw [List.length_take]; omega
      have l2 : (Y'.drop (j - i)).length = i := by rw [List.length_drop]; omega
      generalize Y'.take (j - i) = Y1 at *
      generalize Y'.drop (j - i) = Y2 at *
      subst eY
      have C := HS.out wr (m - i) (m + j - i) i P' X' Y1 Y2 R' (by simpa using p5) (by omega) (by simpa using p4) (by omega) (by omega) p2
      have NX : Hid (∀ W, Row W B 3 (iv (P' ++ Y2 ++ Y1 ++ X' ++ R')) → ∃ P'' X'' Y'' R'' : List Int, P''.length + X''.length = m ∧ X''.length = i ∧ Y''.length = j - i ∧ (P'' ++ X'' ++ Y'' ++ R'').length = n ∧ Row W B 3 (iv (P'' ++ X'' ++ Y'' ++ R'')) ∧ P'' ++ Y'' ++ X'' ++ R'' = T) := by
        intro W hW
        refine ⟨P', Y2, Y1, X' ++ R', by omega, l2, l1, ?_, by simpa using hW, by rw [← p6]; simp⟩
        simp at p4 ⊢
        omega
      have b1 : (m : Int) - (i : Int) = ((m - i : Nat) : Int) := by omega
      have b2 : (m : Int) + (j : Int) - (i : Int) = ((m + j - i : Nat) : Int) := by omega
      have b3 : (j : Int) - (i : Int) = ((j - i : Nat) : Int) := by omega
      clear p1 p2 p3 p4 p5 p6 l1 l2 HS
      go_wp2_with (go_at_call 45; (first | rw [b1] | skip); (first | rw [b2] | skip); refine C.mono ?_; rintro e w1 ⟨rfl, r1, k1⟩)
      go_roundg (i + (j - i))
      case measure => omega
      case rel => exact ⟨i, j - i, by omega, by omega, by omega, by omega, by omega, rfl, by go_num, BW.out.trans k1.out, NX.out _ r1.out⟩
    · subst hij
      have C := HS.out wr (m - i) m i P' X' [] Y' R' (by simpa using p5) (by omega) (by simpa using p4) (by omega) (by simpa using p1) p2
      have F : Hid (∀ W, Row W B 3 (iv (P' ++ Y' ++ [] ++ X' ++ R')) → Row W B 3 (iv T)) := by
        intro W hW
        rw [← p6]
        simpa using hW
      have hne : ((i : Int) != (i : Int)) = false := by simp
      have b1 : (m : Int) - (i : Int) = ((m - i : Nat) : Int) := by omega
      clear p1 p2 p3 p4 p5 p6 HS
      go_wp2_with (go_at_call 45; (first | rw [b1] | skip); refine C.mono ?_; rintro e w1 ⟨rfl, r1, k1⟩)
      go_end0
      exact ⟨rfl, F.out _ r1.out, BW.out.trans k1.out⟩
    · have hne : ((i : Int) != (j : Int)) = true := by simp; omega
      have hg : (i : Int) > (j : Int) := by omega
      have eX : X' = X'.take j ++ X'.drop j := (List.take_append_drop _ _).symm
      have l1 : (X'.take j).length = j := by rw [List.length_take]; omega
      have l2 : (X'.drop j).length = i - j := by rw [List.length_drop]; omega
      generalize X'.take j = X1 at *
      generalize X'.drop j = X2 at *
      subst eX
      simp only [List.length_append] at p1 p2
      have C := HS.out wr (m - i) m j P' X1 X2 Y' R' (by simpa using p5) (by omega) (by simpa using p4) (by omega) (by omega) l1
      have NX : Hid (∀ W, Row W B 3 (iv (P' ++ Y' ++ X2 ++ X1 ++ R')) → ∃ P'' X'' Y'' R'' : List Int, P''.length + X''.length = m ∧ X''.length = i - j ∧ Y''.length = j ∧ (P'' ++ X'' ++ Y'' ++ R'').length = n ∧ Row W B 3 (iv (P'' ++ X'' ++ Y'' ++ R'')) ∧ P'' ++ Y'' ++ X'' ++ R'' = T) := by
        intro W hW
        refine ⟨P' ++ Y', X2, X1, R', by rw [List.length_append]; omega, l2, l1, ?_, by simpa using hW, by rw [← p6]; simp⟩
        simp at p4 ⊢
        omega
      have b1 : (m : Int) - (i : Int) = ((m - i : Nat) : Int) := by omega
      have b3 : (i : Int) - (j : Int) = ((i - j : Nat) : Int) := by omega
      clear p1 p2 p3 p4 p5 p6 l1 l2 HS
      go_wp2_with (go_at_call 45; (first | rw [b1] | skip); refine C.mono ?_; rintro e w1 ⟨rfl, r1, k1⟩)
      go_roundg (i - j + j)
      case measure => omega
      case rel => exact ⟨i - j, j, by omega, by omega, by omega, by omega, by omega, by go_num, rfl, BW.out.trans k1.out, NX.out _ r1.out⟩

end Go.Proofs.Ytkccdhidmihekaa
