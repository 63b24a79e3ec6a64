/-
  quipuref.at, quipuref.Trellis.
-/
import Derived.Test.YtnkhlohoaoiefaaDoorPu
import Derived.Test.YtnkhlohoaoiefaaDoorOd
namespace Go.Proofs.YtnkhlohoaoiefaaDoor
open Go.RowKit
set_option linter.unusedVariables false

theorem at_any (x : Wd) (i k : Nat) (w : World) (hx : Bits w x) : Calls Tryd.prog 25 #[x.v, .int .i64 ((i : Int) - (k : Int))] w fun e w' => e = .returned (.bool (ga x.l i k)) ∧ w' = w := by
  obtain ⟨a, c, l⟩ := x
  obtain ⟨h1, h2, _, b, o, h4, h5⟩ := hx
  simp only at h1 h2 h4 h5
  simp only [Wd.v]
  unfold maxLen at h2
  by_cases hk : k ≤ i
  · obtain ⟨j, rfl⟩ : ∃ j, i = j + k := ⟨i - k, by omega⟩
    have e1 : ga l (j + k) k = l.getD j false := by unfold ga; rw [if_pos (by omega), Nat.add_sub_cancel]
    have e2 : ((j + k : Nat) : Int) - (k : Int) = (j : Int) := by omega
    rw [e1, e2]
    have hz : (0 : Int) ≤ j := by omega
    by_cases hj : j < l.length
    · have hjz : (j : Int) < (l.length : Int) := by omega
      obtain rfl := h4 (by omega)
      have hc := h5 j hj
      clear h5 h4 e1 e2
      generalize l.getD j false = q at *
      generalize l.length = n at *
      go_enter Tryd.func25, Tryd.ntmps25
      go_wp2
      go_ret
      exact ⟨rfl, rfl⟩
    · have hjz : ¬ (j : Int) < (l.length : Int) := by omega
      rw [show l.getD j false = false by rw [List.getD_eq_getElem?_getD, List.getElem?_eq_none (by omega)]; rfl]
      clear h5 h4 e1 e2
      generalize l.length = n at *
      go_enter Tryd.func25, Tryd.ntmps25
      go_wp2
      go_ret
      exact ⟨rfl, rfl⟩
  · have e1 : ga l i k = false := by unfold ga; rw [if_neg hk]
    have hz : ¬ (0 : Int) ≤ (i : Int) - (k : Int) := by omega
    rw [e1]
    clear h5 h4 e1
    generalize (i : Int) - (k : Int) = j at *
    generalize l.length = n at *
    go_enter Tryd.func25, Tryd.ntmps25
    go_wp2
    go_ret
    exact ⟨rfl, rfl⟩

theorem three_bits (w : World) (a b c : Bool) : Bits (w.alloc (.cells #[.bool a, .bool b, .bool c] 4)) ⟨some ⟨w.heap.size, 0, none⟩, 3, [a, b, c]⟩ :=
  Row.bits (l := [a, b, c]) (row_last w [.bool a, .bool b, .bool c] 4) (by unfold maxLen; simp)
theorem two_bits (w : World) (a b : Bool) : Bits (w.alloc (.cells #[.bool a, .bool b] 4)) ⟨some ⟨w.heap.size, 0, none⟩, 2, [a, b]⟩ :=
  Row.bits (l := [a, b]) (row_last w [.bool a, .bool b] 4) (by unfold maxLen; simp)

set_option maxHeartbeats 2000000 in
theorem refTrellis_any (x : Wd) (hl : x.l.length ≤ 12) (w : World) (hx : Bits w x) : Calls Tryd.prog 17 #[x.v] w fun e w' => ∃ y : Wd, e = .returned y.v ∧ y.l = tr x.l ∧ Bits w' y ∧ Ext w w' := by
  obtain ⟨l, hll⟩ : ∃ l, x.l = l := ⟨_, rfl⟩
  obtain ⟨n, hn⟩ : ∃ n, l.length = n := ⟨_, rfl⟩
  have HX : Hid (∀ W, Ext w W → Bits W x) := fun W E => hx.ext E
  have HV : Hid ((Value.slice x.a n x.c) = x.v) := by show _ = x.v; rw [Wd.v, hll, hn]
  have c0 : Hid (∀ (i : Nat) (W : World), Ext w W → Calls Tryd.prog 25 #[.slice x.a n x.c, .int .i64 i] W fun e w' => e = .returned (.bool (ga l i 0)) ∧ w' = W) := fun i W E => by
    have := at_any x i 0 W (hx.ext E)
    rw [hll] at this
    rw [HV.out]
    simpa using this
  have c1 : Hid (∀ (i : Nat) (W : World), Ext w W → Calls Tryd.prog 25 #[.slice x.a n x.c, .int .i64 ((i : Int) - 1)] W fun e w' => e = .returned (.bool (ga l i 1)) ∧ w' = W) := fun i W E => by
    have := at_any x i 1 W (hx.ext E)
    rw [hll] at this
    rw [HV.out]
    exact this
  have c2 : Hid (∀ (i : Nat) (W : World), Ext w W → Calls Tryd.prog 25 #[.slice x.a n x.c, .int .i64 ((i : Int) - 2)] W fun e w' => e = .returned (.bool (ga l i 2)) ∧ w' = W) := fun i W E => by
    have := at_any x i 2 W (hx.ext E)
    rw [hll] at this
    rw [HV.out]
    exact this
  have c3 : Hid (∀ (a b c p : Bool) (W V : World), ((a != b) != c) = p → V = W.alloc (.cells #[.bool a, .bool b, .bool c] 4) → Calls Tryd.prog 24 #[.slice (some ⟨W.heap.size, 0, none⟩) 3 3] V fun e w' => e = .returned (.bool p) ∧ w' = V) := by
    rintro a b c p W V rfl rfl
    have := oddBits_any _ _ (three_bits W a b c)
    refine this.mono ?_
    rintro e w' ⟨rfl, rfl⟩
    refine ⟨ret_bool ?_, rfl⟩
    cases a <;> cases b <;> cases c <;> rfl
  have c4 : Hid (∀ (a b p : Bool) (W V : World), (a != b) = p → V = W.alloc (.cells #[.bool a, .bool b] 4) → Calls Tryd.prog 24 #[.slice (some ⟨W.heap.size, 0, none⟩) 2 2] V fun e w' => e = .returned (.bool p) ∧ w' = V) := by
    rintro a b p W V rfl rfl
    have := oddBits_any _ _ (two_bits W a b)
    refine this.mono ?_
    rintro e w' ⟨rfl, rfl⟩
    refine ⟨ret_bool ?_, rfl⟩
    cases a <;> cases b <;> rfl
  have HT : Hid (∀ k, tk l k ++ [(ga l k 0 != ga l k 1) != ga l k 2, ga l k 0 != ga l k 2] = tk l (k + 1)) := fun k => rfl
  have HTL : Hid (∀ k, (tk l k).length = 2 * k) := tk_len l
  have HTR : Hid (tr l = tk l (n + 2)) := by show _ = _; unfold tr; rw [hn]
  simp only [Wd.v]
  rw [hll] at hl ⊢
  rw [hn] at hl ⊢
  clear hll hn hx HV HX
  go_enter Tryd.func17, Tryd.ntmps17
  go_wp2
  go_loopg [3, 4] (n + 2) (fun gg s3 s4 wr => ∃ (k : Nat) (sv : Value), k ≤ n + 2 ∧ n + 2 - k ≤ gg ∧ s4 = .int .i64 k ∧ sv = s3 ∧ Aside (OwnB w wr sv (tk l k)))
  case atStart => exact ⟨0, _, by omega, by omega, rfl, rfl, OwnB.nil (Ext.refl w)⟩
  case round =>
    obtain ⟨k, s3, hk, hgg, rfl, rfl, O⟩ := hrel
    have O' : Hid (OwnB w wr s3 (tk l k)) := O.out
    clear O
    by_cases hlt : k < n + 2
    · have hltz : (k : Int) < (n : Int) + 2 := by omega
      have k0 : Hid (∀ W, Ext w W → Calls Tryd.prog 25 #[.slice x.a n x.c, .int .i64 k] W fun e w' => e = .returned (.bool (ga l k 0)) ∧ w' = W) := c0.out k
      have k1 : Hid (∀ W, Ext w W → Calls Tryd.prog 25 #[.slice x.a n x.c, .int .i64 ((k : Int) - 1)] W fun e w' => e = .returned (.bool (ga l k 1)) ∧ w' = W) := c1.out k
      have k2 : Hid (∀ W, Ext w W → Calls Tryd.prog 25 #[.slice x.a n x.c, .int .i64 ((k : Int) - 2)] W fun e w' => e = .returned (.bool (ga l k 2)) ∧ w' = W) := c2.out k
      have ht := HT.out k
      have HT' : Hid (tk l k ++ [(ga l k 0 != ga l k 1) != ga l k 2, ga l k 0 != ga l k 2] = tk l (k + 1)) := ht
      have htl := HTL.out k
      have HTL' : Hid ((tk l k).length = 2 * k) := htl
      clear c0 c1 c2 HT HTL HTR ht htl
      generalize ga l k 0 = q0 at *
      generalize ga l k 1 = q1 at *
      generalize ga l k 2 = q2 at *
      generalize tk l k = T at *
      obtain ⟨P1, hP1⟩ : ∃ P1, ((q0 != q1) != q2) = P1 := ⟨_, rfl⟩
      obtain ⟨P2, hP2⟩ : ∃ P2, (q0 != q2) = P2 := ⟨_, rfl⟩
      have HP1 : Hid (((q0 != q1) != q2) = P1) := hP1
      have HP2 : Hid ((q0 != q2) = P2) := hP2
      rw [hP1, hP2] at HT'
      clear hP1 hP2
      go_wp2_with fail
      refine (k0.out wr O'.out.1).mono ?_
      rintro e w2 ⟨rfl, rfl⟩
      go_wp2_with fail
      refine (k1.out w2 O'.out.1).mono ?_
      rintro e w3 ⟨rfl, rfl⟩
      go_wp2_with fail
      refine (k2.out w3 O'.out.1).mono ?_
      rintro e w4 ⟨rfl, rfl⟩
      go_wp2_with fail
      refine (c3.out q0 q1 q2 P1 w4 _ HP1.out rfl).mono ?_
      rintro e w5 ⟨rfl, rfl⟩
      go_wp2_with fail
      have E5 : Hid (Ext w (w4.alloc (.cells #[.bool q0, .bool q1, .bool q2] 4))) := O'.out.1.alloc _
      refine (k0.out _ E5.out).mono ?_
      rintro e w6 ⟨rfl, rfl⟩
      go_wp2_with fail
      refine (k2.out _ E5.out).mono ?_
      rintro e w7 ⟨rfl, rfl⟩
      have O5 : Hid (OwnB w (w4.alloc (.cells #[.bool q0, .bool q1, .bool q2] 4)) s3 T) := O'.out.ext ((Ext.refl w4).alloc _)
      clear O' k0 k1 k2 c3 E5
      generalize (w4.alloc (.cells #[.bool q0, .bool q1, .bool q2] 4)) = W at *
      go_wp2_with fail
      refine (c4.out q0 q2 P2 W _ HP2.out rfl).mono ?_
      rintro e w8 ⟨rfl, rfl⟩
      have O6 : Hid (OwnB w (W.alloc (.cells #[.bool q0, .bool q2] 4)) s3 T) := O5.out.ext ((Ext.refl W).alloc _)
      clear O5 c4
      generalize (W.alloc (.cells #[.bool q0, .bool q2] 4)) = V at *
      have O7 : Hid (OwnB w (V.alloc (.cells #[.bool P1, .bool P2] 4)) s3 T) := O6.out.ext ((Ext.refl V).alloc _)
      have Y7 : Hid (Bits (V.alloc (.cells #[.bool P1, .bool P2] 4)) ⟨some ⟨V.heap.size, 0, none⟩, 2, [P1, P2]⟩) := two_bits V P1 P2
      have HB : Hid (T.length + [P1, P2].length ≤ 140737488355328) := by show _ ≤ _; rw [HTL'.out]; show 2 * k + 2 ≤ _; omega
      clear O6 HTL'
      go_wp2_with (at_builtin; refine wpList_appendBits rfl _ _ rfl w _ s3 (by rfl) T O7.out ⟨some ⟨V.heap.size, 0, none⟩, 2, [P1, P2]⟩ (by rfl) Y7.out HB.out ?_; intro v' w4 O4; rw [HT'.out] at O4; have O4' : Hid (OwnB w w4 v' (tk l (k + 1))) := O4; clear O4 O7 Y7)
      go_roundg (n + 2 - (k + 1))
      case measure => omega
      case rel => exact ⟨k + 1, _, by omega, by omega, by go_num, rfl, O4'.out⟩
    · obtain rfl : k = n + 2 := by omega
      have hltz : ¬ ((n + 2 : Nat) : Int) < (n : Int) + 2 := by omega
      have O2 : Hid (OwnB w wr s3 (tr l)) := by show OwnB _ _ _ _; rw [HTR.out]; exact O'.out
      clear O' c0 c1 c2 c3 c4 HT HTL HTR
      go_wp2
      go_ret
      obtain ⟨y, rfl, hy, hb⟩ := O2.out.bits
      exact ⟨y, rfl, hy, hb, O2.out.1⟩

end Go.Proofs.YtnkhlohoaoiefaaDoor
