/-
  trellis.Put.
-/
import Derived.Test.YtnkhlohoaoiefaaDoorTr
import Derived.Test.YtnkhlohoaoiefaaDoorWr
import Derived.Test.YtnkhlohoaoiefaaDoorApb
namespace Go.Proofs.YtnkhlohoaoiefaaDoor
open Go.RowKit
set_option linter.unusedVariables false

theorem put_bad (x : Wd) (hl : 12 < x.l.length) (w : World) : Calls Tryd.prog 9 #[x.v] w fun e w' => e = .returned (.tuple #[.slice none 0 0, .int .i64 1]) ∧ w' = w := by
  have hz : (12 : Int) < x.l.length := by omega
  simp only [Wd.v] at *
  generalize x.l.length = n at *
  go_enter Tryd.func9, Tryd.ntmps9
  go_wp2
  go_ret2
  exact ⟨rfl, rfl⟩

theorem ga_word (l : List Bool) (k : Nat) : (l ++ [false, false]).getD k false = ga l k 0 := by
  rw [ga_zero]
  rcases Nat.lt_or_ge k l.length with h | h
  · simp [List.getD_eq_getElem?_getD, List.getElem?_append_left h]
  · rw [List.getD_eq_getElem?_getD, List.getElem?_append_right h, List.getD_eq_getElem?_getD, List.getElem?_eq_none h]
    rcases (by omega : k - l.length = 0 ∨ k - l.length = 1 ∨ 2 ≤ k - l.length) with e | e | e
    · rw [e]; rfl
    · rw [e]; rfl
    · rw [List.getElem?_eq_none (by simpa using e)]
theorem tk_next (l : List Bool) (k : Nat) : tk l k ++ [(ga l k 0 != ga l k 2) != ga l k 1, ga l k 0 != ga l k 2] = tk l (k + 1) := by
  show _ = tk l k ++ [p1 l k, p2 l k]
  unfold p1 p2
  cases ga l k 0 <;> cases ga l k 1 <;> cases ga l k 2 <;> rfl

theorem row_last (w : World) (L : List Value) (t : TypeId) : Row (w.alloc (.cells L.toArray t)) w.heap.size t L := by
  show (w.alloc _).heap[_]? = _
  rw [heap_alloc_new]

set_option maxHeartbeats 2000000 in
theorem put_good (x : Wd) (hl : x.l.length ≤ 12) (w : World) (hx : Bits w x) : Calls Tryd.prog 9 #[x.v] w fun e w' => ∃ y : Wd, e = .returned (.tuple #[y.v, .int .i64 0]) ∧ y.l = tr x.l ∧ Bits w' y ∧ Ext w w' := by
  have hmk : ∀ w : World, Sem.run Tryd.prog (Instr.makeSlice 22 (.int .i64 2) (.int .i64 2)) w = .ok (.slice (some ⟨w.heap.size, 0, none⟩) 2 2) (w.alloc (.cells (madeCells #[.bool false] 2) 4)) := run_make_row' (P := Tryd.prog) 22 4 (.bool false) 1 Tryd.underlying22 info4 rfl .i64 .i64 2 (by omega) (by omega)
  have hz : ¬ (12 : Int) < x.l.length := by omega
  obtain ⟨l, hll⟩ : ∃ l, x.l = l := ⟨_, rfl⟩
  obtain ⟨n, hn⟩ : ∃ n, l.length = n := ⟨_, rfl⟩
  have HN : Hid (l.length = n) := hn
  have c1 : Hid (∀ (A W : World), A = (w.alloc (.cells #[.bool false, .bool false] 37)).alloc (.cells (madeCells #[.bool false] 2) 4) → W = A.alloc (.cells #[.slice x.a n x.c, .slice (some ⟨w.heap.size + 1, 0, none⟩) 2 2] 22) →
      Calls Tryd.prog 18 #[.slice (some ⟨w.heap.size + 1 + 1, 0, none⟩) 2 2] W fun e w' => ∃ g cap rest, e = .returned (.slice (some ⟨g, 0, none⟩) (n + 2 : Nat) cap) ∧ Row w' g 4 (bv (l ++ [false, false]) ++ rest) ∧ Row w' w.heap.size 37 [.bool false, .bool false] ∧ Ext w w') := by
    rintro A W rfl rfl
    have e1 : Row (w.alloc (.cells #[.bool false, .bool false] 37)) w.heap.size 37 [.bool false, .bool false] := row_last w _ _
    have e2 : Row ((w.alloc (.cells #[.bool false, .bool false] 37)).alloc (.cells (madeCells #[.bool false] 2) 4)) (w.heap.size + 1) 4 [.bool false, .bool false] := by
      have := Row.made (w.alloc (.cells #[.bool false, .bool false] 37)) 4 (.bool false) 2
      rw [World.size_alloc] at this
      exact this
    obtain ⟨A, hA⟩ : ∃ A, (w.alloc (.cells #[.bool false, .bool false] 37)).alloc (.cells (madeCells #[.bool false] 2) 4) = A := ⟨_, rfl⟩
    have eA : Ext w A := by rw [← hA]; exact ((Ext.refl w).alloc _).alloc _
    have e1 : Row A w.heap.size 37 [.bool false, .bool false] := by rw [← hA]; exact e1.ext ((Ext.refl _).alloc _)
    rw [hA] at e2 ⊢
    have sA : A.heap.size = w.heap.size + 1 + 1 := by rw [← hA]; simp
    have e3 : Row (A.alloc (.cells #[.slice x.a n x.c, .slice (some ⟨w.heap.size + 1, 0, none⟩) 2 2] 22)) (w.heap.size + 1 + 1) 22 [.slice x.a n x.c, .slice (some ⟨w.heap.size + 1, 0, none⟩) 2 2] := by
      have := row_last A [.slice x.a n x.c, .slice (some ⟨w.heap.size + 1, 0, none⟩) 2 2] 22
      rw [sA] at this
      exact this
    have eW := eA.alloc (.cells #[.slice x.a n x.c, .slice (some ⟨w.heap.size + 1, 0, none⟩) 2 2] 22)
    have xl : x.l.length = n := by rw [hll]; exact hn
    have := concat_any x ⟨some ⟨w.heap.size + 1, 0, none⟩, 2, [false, false]⟩ (w.heap.size + 1 + 1) _ (hx.ext eW) ((Row.bits (l := [false, false]) e2 (by unfold maxLen; decide)).ext ((Ext.refl _).alloc _)) (by rw [e3.cell 0 (by simp), Wd.v, xl]; rfl) (e3.cell 1 (by simp)) (by simp) (by rw [xl]; show n + 2 ≤ 1000; omega)
    refine this.mono ?_
    rintro e w' ⟨v, rfl, hv⟩
    obtain ⟨g, cap, rest, rfl, hg, _, _, hr, _⟩ := hv.row (by simp)
    refine ⟨g, cap, rest, ?_, ?_, (e1.ext ((Ext.refl _).alloc _)).ext hv.1, eW.trans hv.1⟩
    · rw [List.length_append, xl]; rfl
    · have hr' : Row w' g 4 (bv (x.l ++ [false, false]) ++ rest) := hr
      rw [hll] at hr'
      exact hr'
  have c2 : Hid (∀ s0 s1 q W, Calls Tryd.prog 19 #[pv s0 s1, .bool q] W fun e w' => e = .returned (pv ((q != s1) != s0) (q != s1)) ∧ Ext W w') := writes_any
  have c3 : Hid (∀ s0 s1 q W, Calls Tryd.prog 20 #[pv s0 s1, .bool q] W fun e w' => e = .returned (pv q s0) ∧ Ext W w') := next_any
  simp only [Wd.v]
  rw [hll] at hl hz ⊢
  rw [hn] at hl hz ⊢
  clear hn hx hll
  go_enter Tryd.func9, Tryd.ntmps9
  go_wp2_with fail
  refine (c1.out _ _ rfl rfl).mono ?_
  rintro e w1 ⟨g, cap, rest, rfl, hr, hs, he⟩
  have G : Hid (Row w1 g 4 (bv (l ++ [false, false]) ++ rest)) := hr
  have S : Hid (Row w1 w.heap.size 37 [.bool false, .bool false]) := hs
  have E : Hid (Ext w w1) := he
  clear hr hs he c1 hmk
  have HG : Hid (w.heap.size ≠ g) := fun e => by
    subst e
    have h1 := S.out
    have h2 := G.out
    unfold Row at h1 h2
    rw [h1] at h2
    injection h2 with h2
    injection h2 with _ h2
    exact absurd h2 (by decide)
  have HWd : Hid (∀ k, k < n + 2 → ∀ W, Row W g 4 (bv (l ++ [false, false]) ++ rest) → W.cell? ⟨g, k, none⟩ = some (.bool (ga l k 0))) := fun k hk W h => by
    have := RB.cell (l := l ++ [false, false]) (rest := rest) h k (by rw [List.length_append, HN.out]; exact hk)
    rw [this, ga_word]
  have HT : Hid (∀ k, tk l k ++ [(ga l k 0 != ga l k 2) != ga l k 1, ga l k 0 != ga l k 2] = tk l (k + 1)) := tk_next l
  have HA1 : Hid (∀ k, ga l (k + 1) 1 = ga l k 0) := fun k => ga_next l k 0
  have HA2 : Hid (∀ k, ga l (k + 1) 2 = ga l k 1) := fun k => ga_next l k 1
  have HTL : Hid (∀ k, (tk l k).length = 2 * k) := tk_len l
  have HTR : Hid (tr l = tk l (n + 2)) := by show _ = _; unfold tr; rw [HN.out]
  go_wp2_with fail
  go_loopg [4, 7, 8, 17] (n + 2) (fun gg s4 _ _ s17 wr => ∃ (k : Nat) (sv : Value), k ≤ n + 2 ∧ n + 2 - k ≤ gg ∧ s17 = .int .i64 k ∧ sv = s4 ∧ Aside (OwnB w wr sv (tk l k)) ∧ Aside (Row wr g 4 (bv (l ++ [false, false]) ++ rest)) ∧ Aside (Row wr w.heap.size 37 [.bool (ga l k 1), .bool (ga l k 2)]) ∧ Aside (some g ≠ sv.ownBlock) ∧ Aside (some w.heap.size ≠ sv.ownBlock))
  case atStart => exact ⟨0, _, by omega, by omega, rfl, rfl, OwnB.nil E.out, G.out, S.out, by show _ ≠ _; simp [Value.ownBlock], by show _ ≠ _; simp [Value.ownBlock]⟩
  case round =>
    obtain ⟨k, s4, hk, hgg, rfl, rfl, O, G2, S2, N1, N2⟩ := hrel
    clear G S E
    by_cases hlt : k < n + 2
    · have hltz : (k : Int) < (n : Int) + 2 := by omega
      have e1 := HWd.out k hlt wr G2.out
      have ht := HT.out k
      have ha1 := HA1.out k
      have ha2 := HA2.out k
      have htl := HTL.out k
      have HT' : Hid (tk l k ++ [(ga l k 0 != ga l k 2) != ga l k 1, ga l k 0 != ga l k 2] = tk l (k + 1)) := ht
      have HA1' : Hid (ga l (k + 1) 1 = ga l k 0) := ha1
      have HA2' : Hid (ga l (k + 1) 2 = ga l k 1) := ha2
      have HTL' : Hid ((tk l k).length = 2 * k) := htl
      have O' : Hid (OwnB w wr s4 (tk l k)) := O.out
      have G' : Hid (Row wr g 4 (bv (l ++ [false, false]) ++ rest)) := G2.out
      have S' : Hid (Row wr w.heap.size 37 [.bool (ga l k 1), .bool (ga l k 2)]) := S2.out
      have N1' : Hid (some g ≠ s4.ownBlock) := N1.out
      have N2' : Hid (some w.heap.size ≠ s4.ownBlock) := N2.out
      clear HWd HT HA1 HA2 HTL HTR ht ha1 ha2 htl O G2 S2 N1 N2
      generalize ga l k 0 = q0 at *
      generalize ga l k 1 = q1 at *
      generalize ga l k 2 = q2 at *
      generalize tk l k = T at *
      go_wp2_with (refine wpList_loadS rfl _ (by rfl) w.heap.size (by rfl) _ _ S'.out ?_)
      refine (c2.out q1 q2 q0 wr).mono ?_
      rintro e w2 ⟨rfl, E2⟩
      generalize hP1 : ((q0 != q2) != q1) = P1 at *
      generalize hP2 : (q0 != q2) = P2 at *
      clear hP1 hP2
      have E3 : Ext wr (w2.alloc (.cells #[.bool P1, .bool P2] 42)) := E2.alloc _
      have O3 : Hid (OwnB w (w2.alloc (.cells #[.bool P1, .bool P2] 42)) s4 T) := O'.out.ext E3
      have G3 : Hid (Row (w2.alloc (.cells #[.bool P1, .bool P2] 42)) g 4 (bv (l ++ [false, false]) ++ rest)) := G'.out.ext E3
      have S3 : Hid (Row (w2.alloc (.cells #[.bool P1, .bool P2] 42)) w.heap.size 37 [.bool q1, .bool q2]) := S'.out.ext E3
      have R3 : Hid (∀ i, i < [P1, P2].length → (w2.alloc (.cells #[.bool P1, .bool P2] 42)).cell? ⟨w2.heap.size, i, none⟩ = some (.bool ([P1, P2].getD i false))) := fun i hi => by
        have := row_last w2 [.bool P1, .bool P2] 42
        rcases (by simp at hi; omega : i = 0 ∨ i = 1) with rfl | rfl
        · exact this.cell 0 (by simp)
        · exact this.cell 1 (by simp)
      have HB : Hid (T.length + [P1, P2].length ≤ 1000000000) := by show _ ≤ _; rw [HTL'.out]; show 2 * k + 2 ≤ _; omega
      clear E2 E3 O' G' S' c2 HTL'
      go_wp2_with (first | (refine wpList_loadS rfl _ (by rfl) w.heap.size (by rfl) q1 q2 S4.out.1 ?_) | (at_builtin; refine wpList_appendBitsB rfl _ _ rfl w _ s4 (by rfl) T O3.out w2.heap.size 2 [P1, P2] (by simp) (by rfl) R3.out HB.out ?_; intro v' w4 O4 K4 _; rw [HT'.out] at O4; have O4' : Hid (OwnB w w4 v' (tk l (k + 1))) := O4; have G4 : Hid (Row w4 g 4 (bv (l ++ [false, false]) ++ rest) ∧ some g ≠ v'.ownBlock) := K4 _ _ _ G3.out N1'.out; have S4 : Hid (Row w4 w.heap.size 37 [.bool q1, .bool q2] ∧ some w.heap.size ≠ v'.ownBlock) := K4 _ _ _ S3.out N2'.out; clear O4 K4 O3 G3 S3 R3 N1' N2'))
      refine (c3.out q1 q2 q0 w4).mono ?_
      rintro e w5 ⟨rfl, E5⟩
      have O5 : Hid (OwnB w w5 v' (tk l (k + 1))) := O4'.out.ext E5
      have G5 : Hid (Row w5 g 4 (bv (l ++ [false, false]) ++ rest)) := G4.out.1.ext E5
      have S5 : Hid (Row w5 w.heap.size 37 [.bool q1, .bool q2]) := S4.out.1.ext E5
      have N51 : Hid (some g ≠ v'.ownBlock) := G4.out.2
      have N52 : Hid (some w.heap.size ≠ v'.ownBlock) := S4.out.2
      have O6 : Hid (OwnB w (w5.setRow w.heap.size #[.bool q0, .bool q1]) v' (tk l (k + 1))) := O5.out.setRow (Nat.le_refl _) N52.out _
      have G6 : Hid (Row (w5.setRow w.heap.size #[.bool q0, .bool q1]) g 4 (bv (l ++ [false, false]) ++ rest)) := G5.out.setOther (fun e => HG.out e.symm) _
      have S6 : Hid (Row (w5.setRow w.heap.size #[.bool q0, .bool q1]) w.heap.size 37 [.bool (ga l (k + 1) 1), .bool (ga l (k + 1) 2)]) := by
        show Row _ _ _ _
        rw [HA1'.out, HA2'.out]
        exact S5.out.setRow [.bool q0, .bool q1]
      clear c3 E5 O4' G4 S4 O5 G5 HT' HA1' HA2'
      go_wp2_with (refine wpList_storeS rfl _ _ (by rfl) w.heap.size q1 q2 q0 q1 (by rfl) (by rfl) S5.out ?_)
      go_roundg (n + 2 - (k + 1))
      case measure => omega
      case rel => exact ⟨k + 1, _, by omega, by omega, by go_num, rfl, O6.out, G6.out, S6.out, N51.out, N52.out⟩
    · obtain rfl : k = n + 2 := by omega
      have hltz : ¬ ((n + 2 : Nat) : Int) < (n : Int) + 2 := by omega
      have O' : Hid (OwnB w wr s4 (tr l)) := by show OwnB _ _ _ _; rw [HTR.out]; exact O.out
      clear HWd HT HA1 HA2 HTL HTR O G2 S2 N1 N2
      go_wp2
      go_ret2
      obtain ⟨y, rfl, hy, hb⟩ := O'.out.bits
      exact ⟨y, rfl, hy, hb, O'.out.1⟩

end Go.Proofs.YtnkhlohoaoiefaaDoor
