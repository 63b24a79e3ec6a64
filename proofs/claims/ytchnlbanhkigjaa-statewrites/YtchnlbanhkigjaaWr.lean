/-
  state.Write.
-/
import Derived.Test.YtchnlbanhkigjaaFc
namespace Go.Proofs.Ytchnlbanhkigjaa
open Go.RowKit
set_option linter.unusedVariables false

/-- What Write tells: the error, and the number. -/
def wre (z l : List Int) : Int := if per z = 0 then (if l.length ≤ 64 then (wt (nt z) l).2 else 1) else per z
def wrv (z l : List Int) : Nat := if wre z l = 0 then (wt (nt z) l).1 else 0

theorem swrite_large (a b : Option Addr) (n c m d : Nat) (S : Int) (w : World) (hm : m ≤ maxLen) (h64 : 64 < m)
    (c1 : Calls Try.prog 22 #[.slice a n c] w fun e w' => e = .returned (.tuple #[.int .i64 S, .int .i64 0]) ∧ w' = w) :
    Calls Try.prog 14 #[.slice a n c, .slice b m d] w fun e w' => e = .returned (.tuple #[.int .i64 0, .int .i64 1]) ∧ Qt w w' := by
  unfold maxLen at hm
  go_enter Try.func14, Try.ntmps14
  go_wp2_with fail
  refine c1.mono ?_
  rintro e w' ⟨rfl, rfl⟩
  clear c1
  go_wp2
  go_ret2
  exact ⟨rfl, Qt.refl _⟩

theorem swrite_parts (a b : Option Addr) (n c m d : Nat) (E : Int) (w : World) (hE : (E != 0) = true)
    (c1 : Calls Try.prog 22 #[.slice a n c] w fun e w' => e = .returned (.tuple #[.int .i64 0, .int .i64 E]) ∧ w' = w) :
    Calls Try.prog 14 #[.slice a n c, .slice b m d] w fun e w' => e = .returned (.tuple #[.int .i64 0, .int .i64 E]) ∧ Qt w w' := by
  go_enter Try.func14, Try.ntmps14
  go_wp2_with fail
  refine c1.mono ?_
  rintro e w' ⟨rfl, rfl⟩
  clear c1
  go_wp2
  go_ret2
  exact ⟨rfl, Qt.refl _⟩

theorem swrite_good (b o n c : Nat) (p : List Nat) (a : Option Addr) (b2 o2 m d : Nat) (l : List Int) (w : World) (hn : p.length = n) (h8 : n ≤ 8) (hc : n ≤ c) (hcm : c ≤ maxLen) (h16 : p.sum ≤ 16) (h : Pa w b o p)
    (hm : l.length = m) (h64 : m ≤ 64) (ha : 0 < m → a = some ⟨b2, o2, none⟩) (hl : At w b2 o2 l)
    (c1 : Calls Try.prog 22 #[.slice (some ⟨b, o, none⟩) n c] w fun e w' => e = .returned (.tuple #[.int .i64 (p.sum : Nat), .int .i64 0]) ∧ w' = w) :
    Calls Try.prog 14 #[.slice (some ⟨b, o, none⟩) n c, .slice a m d] w fun e w' => e = .returned (.tuple #[.int .i64 ((wt p l).1 : Nat), .int .i64 (wt p l).2]) ∧ Qt w w' := by
  have PUT : Hid (∀ (x : Nat) (s : Int) W, x ≤ 1099511627776 → Qt w W → Calls Try.prog 19 #[.slice (some ⟨b, o, none⟩) n c, .int .i64 (p.sum : Nat), .int .i64 x, .int .i64 s] W fun e w' => e = .returned (.tuple #[.int .i64 (pv p x s : Nat), .int .i64 (pe p x s)]) ∧ Qt W w') := fun x s W hx q => put_any b o n c p x s W hn h8 hc hcm h16 hx (h.ext q.ext)
  have HA : Hid (∀ i, i < m → w.cell? ⟨b2, o2 + i, none⟩ = some (.int .i64 (l.getD i 0))) := fun i hi => hl i (by omega)
  have HH : Hid (0 < m → a = some ⟨b2, o2, none⟩) := ha
  have FEW : Hid (∀ k, (wt p (l.drop k)).1 ≤ 1099511627776) := fun k => wt_few p _
  have STEP : Hid (∀ k, k < m → (wt p (l.drop (k + 1))).2 = 0 → wt p (l.drop k) = (pv p (wt p (l.drop (k + 1))).1 (l.getD k 0), pe p (wt p (l.drop (k + 1))).1 (l.getD k 0))) := fun k hk e => wt_step p l k (by omega) e
  have BAD : Hid (∀ k, k ≤ m → (wt p (l.drop k)).2 ≠ 0 → (wt p l).1 = 0 ∧ (wt p l).2 = (wt p (l.drop k)).2) := fun k hk e => by
    rcases wt_bad p l k (by omega) e with h' | rfl
    · rw [h']; exact ⟨rfl, rfl⟩
    · rw [List.drop_zero] at e ⊢
      exact ⟨wt_zero p l e, rfl⟩
  have Z0 : Hid (l.drop 0 = l) := List.drop_zero
  have ZM : Hid (wt p (l.drop m) = (0, 0)) := by
    show _ = _
    rw [List.drop_of_length_le (by omega)]
    rfl
  obtain ⟨V, hV⟩ : ∃ V, (wt p l).1 = V := ⟨_, rfl⟩
  obtain ⟨F, hF⟩ : ∃ F, (wt p l).2 = F := ⟨_, rfl⟩
  have HV : Hid ((wt p l).1 = V) := hV
  have HF : Hid ((wt p l).2 = F) := hF
  rw [hV, hF]
  clear h hl ha hn hm hV hF hcm
  generalize p.sum = T at *
  go_enter Try.func14, Try.ntmps14
  go_wp2_with fail
  refine c1.mono ?_
  rintro e w' ⟨rfl, rfl⟩
  clear c1
  go_wp2
  go_loopg [7, 8, 9] m (fun gg s7 s8 s9 wr' => ∃ (k x : Nat) (pl : Int), k ≤ m ∧ k ≤ gg ∧ pl = (k : Int) - 1 ∧ x ≤ 1099511627776 ∧ s7 = .int .i64 0 ∧ s8 = .int .i64 x ∧ s9 = .int .i64 pl ∧ Aside (Qt w' wr') ∧ Aside (wt p (l.drop k) = (x, 0)))
  case atStart => exact ⟨m, 0, _, Nat.le_refl _, Nat.le_refl _, rfl, by omega, rfl, rfl, by go_num, Qt.refl _, ZM.out⟩
  case round =>
    obtain ⟨k, x, pl, hk, hg, hpl, hx, rfl, rfl, rfl, Q, A⟩ := hrel
    cases k with
    | zero =>
      have hneg : pl < 0 := by omega
      have A2 : Hid (wt p l = (x, 0)) := by have := A.out; rw [Z0.out] at this; exact this
      have v1 : Hid (x = V) := by show _ = _; rw [← HV.out, A2.out]
      have v2 : Hid (0 = F) := by show _ = _; rw [← HF.out, A2.out]
      clear A A2 STEP BAD Z0 ZM PUT HA HH FEW HV HF
      go_wp2
      go_ret2
      exact ⟨ret_two (by rw [v1.out]) v2.out, Q.out⟩
    | succ k =>
      obtain rfl : pl = (k : Int) := by omega
      clear hpl
      have hk' : k < m := by omega
      obtain rfl := HH.out (by omega)
      have e1 := Q.out.cell (HA.out k (by omega))
      have c2 := PUT.out x (l.getD k 0) wr hx Q.out
      have st : Hid (wt p (l.drop k) = (pv p x (l.getD k 0), pe p x (l.getD k 0))) := by
        have := STEP.out k hk' (by rw [A.out])
        rw [A.out] at this
        exact this
      have few : pv p x (l.getD k 0) ≤ 1099511627776 := by
        have := FEW.out k
        rw [st.out] at this
        exact this
      have bad : Hid (pe p x (l.getD k 0) ≠ 0 → (wt p l).1 = 0 ∧ (wt p l).2 = pe p x (l.getD k 0)) := fun e => by
        have := BAD.out k (by omega) (by rw [st.out]; exact e)
        rw [st.out] at this
        exact this
      clear STEP BAD Z0 ZM PUT HA HH FEW A
      generalize pv p x (l.getD k 0) = V2 at *
      generalize pe p x (l.getD k 0) = F2 at *
      generalize l.getD k 0 = s at *
      by_cases h0 : F2 = 0
      · subst h0
        clear bad HV HF
        go_wp2_with fail
        refine c2.mono ?_
        rintro e w2 ⟨rfl, hq⟩
        have Q2 : Hid (Qt w' w2) := Q.out.trans hq
        clear c2 hq Q
        go_wp2
        go_roundg k
        case measure => omega
        case rel => exact ⟨k, V2, _, by omega, Nat.le_refl _, rfl, few, rfl, rfl, by go_num, Q2.out, st.out⟩
      · have hb : (F2 != 0) = true := by rw [bne_iff_ne]; exact h0
        obtain ⟨b1, b2⟩ := bad.out h0
        have v1 : Hid (0 = V) := by show _ = _; rw [← HV.out, b1]
        have v2 : Hid (F2 = F) := by show _ = _; rw [← HF.out, b2]
        clear bad HV HF st b1 b2 h0
        go_wp2_with fail
        refine c2.mono ?_
        rintro e w2 ⟨rfl, hq⟩
        have Q2 : Hid (Qt w' w2) := Q.out.trans hq
        clear c2 hq Q
        go_wp2
        go_ret2
        exact ⟨ret_two (by rw [← v1.out]; rfl) v2.out, Q2.out⟩

theorem swrite_any (p l : Nm) (w : World) (hp : Nums w p) (hl : Nums w l) :
    Calls Try.prog 14 #[p.v, l.v] w fun e w' => e = .returned (.tuple #[.int .i64 (wrv p.z l.z : Nat), .int .i64 (wre p.z l.z)]) ∧ Qt w w' := by
  have c1 := sum_any p w hp
  obtain ⟨l1, l2, l0, b2, o2, l3, l4⟩ := hl
  by_cases h : per p.z = 0
  · obtain ⟨b, o, g⟩ := good_parts hp h
    rw [psv_good h, g.sum, h] at c1
    by_cases h64 : l.z.length ≤ 64
    · have e1 : wre p.z l.z = (wt (nt p.z) l.z).2 := by unfold wre; rw [if_pos h, if_pos h64]
      have e2 : wrv p.z l.z = (wt (nt p.z) l.z).1 := by
        unfold wrv
        rw [e1]
        by_cases h0 : (wt (nt p.z) l.z).2 = 0
        · rw [if_pos h0]
        · rw [if_neg h0, wt_zero _ _ h0]
      rw [e1, e2, g.v]
      rw [g.v] at c1
      exact swrite_good b o _ p.c (nt p.z) l.a b2 o2 l.z.length l.c l.z w rfl g.few g.cap g.capm g.most g.pa rfl h64 l3 l4 c1
    · have e1 : wre p.z l.z = 1 := by unfold wre; rw [if_pos h, if_neg h64]
      have e2 : wrv p.z l.z = 0 := if_neg (by rw [e1]; decide)
      rw [e1, e2]
      exact swrite_large p.a l.a p.z.length p.c l.z.length l.c _ w (by omega) (by omega) c1
  · have e1 : wre p.z l.z = per p.z := if_neg h
    have e2 : wrv p.z l.z = 0 := if_neg (by rw [e1]; exact h)
    rw [e1, e2]
    rw [psv_bad h] at c1
    exact swrite_parts p.a l.a p.z.length p.c l.z.length l.c _ w (by rw [bne_iff_ne]; exact h) c1

end Go.Proofs.Ytchnlbanhkigjaa
