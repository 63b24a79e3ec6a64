/-
  stuff.between, stuff.Split.
-/
import Derived.Test.YtglajpmifhecgaaTd
import Derived.Test.YtglajpmifhecgaaOpc
namespace Go.Proofs.Ytglajpmifhecgaa
open Go.RowKit
set_option linter.unusedVariables false

/-- What stands behind the first texts is made of the others. -/
theorem fr_rest : ∀ (ts us : List (List Bool)) (D : List Bool), fr ts ++ D = fr us → ∃ vs, us = ts ++ vs ∧ D = fr vs
  | [], us, D, h => ⟨us, rfl, h⟩
  | t :: ts, [], D, h => by
    have e : (sf 0 t ++ fl ++ fr ts ++ D).length = (0 : Nat) := congrArg List.length h
    rw [List.length_append, List.length_append, List.length_append] at e
    have e8 : fl.length = 8 := rfl
    omega
  | t :: ts, u :: us, D, h => by
    have h : sf 0 t ++ fl ++ fr ts ++ D = sf 0 u ++ fl ++ fr us := h
    rw [List.append_assoc, List.append_assoc, List.append_assoc] at h
    have e : (sf 0 t).length = (sf 0 u).length := by
      refine flAt_first (t := u) (z := fr us) (h ▸ flAt_here t (fr ts ++ D)) fun k hk => ?_
      rw [← h]
      exact no_flag (fr ts ++ D) t 0 k (by decide) hk
    obtain ⟨e1, e2⟩ := List.append_inj h e
    have e3 : fr ts ++ D = fr us := List.append_cancel_left e2
    obtain ⟨vs, h1, h2⟩ := fr_rest ts us D e3
    exact ⟨vs, by rw [sf_inj e1, h1]; rfl, h2⟩
theorem frm_len (ts : List (List Bool)) : 8 * ts.length ≤ (frm ts).length := by
  have : ∀ ts, 8 * ts.length ≤ (fr ts).length := fun ts => by
    induction ts with
    | nil => exact Nat.le_refl _
    | cons t ts ih =>
      show 8 * (ts.length + 1) ≤ (sf 0 t ++ fl ++ fr ts).length
      have e8 : fl.length = 8 := rfl
      rw [List.length_append, List.length_append]; omega
  have h := this ts
  unfold frm
  rw [List.length_append]; omega

/-- The first texts are found; the rest begins at k. -/
def Found (l : List Bool) (k : Nat) (T : List (List Bool)) : Prop := k ≤ l.length ∧ l = frm T ++ l.drop k
theorem found_zero {l : List Bool} (h : flAt l 0) : 8 ≤ l.length ∧ Found l 8 [] := by
  have h8 := flAt_le h
  refine ⟨by omega, by omega, ?_⟩
  obtain ⟨z, hz⟩ : fl <+: l := h
  show l = fl ++ [] ++ l.drop 8
  rw [List.append_nil, ← hz]
  rfl
theorem found_len {l : List Bool} {k : Nat} {T : List (List Bool)} (h : Found l k T) : 8 * T.length ≤ l.length := by
  have h1 := congrArg List.length h.2
  rw [List.length_append] at h1
  have h2 := frm_len T
  omega
theorem found_end {l : List Bool} {T : List (List Bool)} (h : Found l l.length T) : l = frm T := by
  have := h.2
  rw [List.drop_length, List.append_nil] at this
  exact this
theorem found_rest {l : List Bool} {k : Nat} {T ts : List (List Bool)} (h : Found l k T) (hs : l = frm ts) : ∃ vs, ts = T ++ vs ∧ l.drop k = fr vs := by
  have h3 : frm ts = frm T ++ l.drop k := hs.symm.trans h.2
  unfold frm at h3
  rw [List.append_assoc] at h3
  obtain ⟨vs, h4, h5⟩ := fr_rest T ts _ (List.append_cancel_left h3).symm
  exact ⟨vs, h4, h5⟩
theorem not_first {l : List Bool} (h : ¬ flAt l 0) (ts : List (List Bool)) : l ≠ frm ts := by
  rintro rfl
  exact h ⟨fr ts, rfl⟩
theorem found_none {l : List Bool} {k : Nat} {T : List (List Bool)} (h : Found l k T) (hk : k < l.length) (hn : ∀ j, ¬ flAt (l.drop k) j) (ts : List (List Bool)) : l ≠ frm ts := by
  intro e
  obtain ⟨vs, h1, h2⟩ := found_rest h e
  cases vs with
  | nil =>
    have := congrArg List.length h2
    rw [List.length_drop] at this
    have h0 : (fr []).length = 0 := rfl
    omega
  | cons u us =>
    apply hn (sf 0 u).length
    rw [h2]
    show flAt (sf 0 u ++ fl ++ fr us) _
    rw [List.append_assoc]
    exact flAt_here u _
theorem found_bad {l : List Bool} {k e : Nat} {T : List (List Bool)} (h : Found l k T) (hf : flAt (l.drop k) e) (hn : ∀ j, j < e → ¬ flAt (l.drop k) j) (hb : br 0 ((l.drop k).take e) = none) (ts : List (List Bool)) : l ≠ frm ts := by
  intro e1
  obtain ⟨vs, h1, h2⟩ := found_rest h e1
  rw [h2] at hf hn hb
  cases vs with
  | nil =>
    have := flAt_le hf
    have h0 : (fr []).length = 0 := rfl
    omega
  | cons u us =>
    have e2 : fr (u :: us) = sf 0 u ++ (fl ++ fr us) := by rw [← List.append_assoc]; rfl
    rw [e2] at hf hn hb
    have e3 := flAt_first hf hn
    rw [e3, List.take_left, br_sf] at hb
    cases hb
theorem found_next {l t : List Bool} {k e : Nat} {T : List (List Bool)} (h : Found l k T) (hf : flAt (l.drop k) e) (hb : br 0 ((l.drop k).take e) = some t) : k + (e + 8) ≤ l.length ∧ Found l (k + (e + 8)) (T ++ [t]) := by
  have h8 := flAt_le hf
  rw [List.length_drop] at h8
  have hk := h.1
  refine ⟨by omega, by omega, ?_⟩
  obtain ⟨z, hz⟩ := hf
  have e1 := (br_iff _ _ _).1 hb
  have e2 : l.drop k = (l.drop k).take e ++ (fl ++ z) := by rw [hz, List.take_append_drop]
  have e3 : l.drop (k + (e + 8)) = z := by
    rw [← List.drop_drop, ← List.drop_drop, ← hz]
    rfl
  rw [e3]
  have h2 := h.2
  rw [e2, ← e1] at h2
  rw [h2]
  unfold frm
  rw [fr_snoc]
  simp only [List.append_assoc]

theorem part_back {W : World} {ya : Option Addr} {yc : Nat} {d : List Bool} (h : Bits W ⟨ya, yc, d⟩) (e m : Nat) (hm : d.length = m) (he : e ≤ m) :
    ∃ yb yd, (∀ V, (Instr.slice 22 (.slice ya m yc) (some (.int .i64 (e : Nat))) none none).run Try.prog V = .ok (.slice yb (m - e) yd) V) ∧ Bits W ⟨yb, yd, d.drop e⟩ := by
  subst hm
  refine ⟨((⟨ya, yc, d⟩ : Wd).back e).a, ((⟨ya, yc, d⟩ : Wd).back e).c, fun V => ?_, h.back he⟩
  have := slice_back h he V
  rw [this]
  show Result.ok (Value.slice _ (d.drop e).length _) V = _
  rw [List.length_drop]
theorem part_front {W : World} {ya : Option Addr} {yc : Nat} {d : List Bool} (h : Bits W ⟨ya, yc, d⟩) (e m : Nat) (hm : d.length = m) (he : e ≤ m) :
    (∀ V, (Instr.slice 22 (.slice ya m yc) none (some (.int .i64 (e : Nat))) none).run Try.prog V = .ok (.slice ya e yc) V) ∧ Bits W ⟨ya, yc, d.take e⟩ := by
  subst hm
  refine ⟨fun V => ?_, h.front e⟩
  have := slice_front h he V
  rw [this]
  show Result.ok (Value.slice ya (d.take e).length yc) V = _
  rw [List.length_take, Nat.min_eq_left he]

/-- The first texts are found, and d is left. -/
def Left (l d : List Bool) (T : List (List Bool)) : Prop := ∃ k, Found l k T ∧ d = l.drop k

set_option maxHeartbeats 2000000 in
/-- stuff.between. -/
theorem between_any (x : Wd) (hl : x.l.length ≤ 1000) (w : World) (hx : Bits w x) : Calls Try.prog 26 #[x.v] w fun e w' => Ext w w' ∧ ((e = .returned (.tuple #[.slice none 0 0, .bool false]) ∧ ∀ ts, x.l ≠ frm ts) ∨ ∃ v X, e = .returned (.tuple #[v, .bool true]) ∧ x.l = frm (X.map (·.l)) ∧ OwnT w w' v X) := by
  obtain ⟨a, c, l⟩ := x
  have XB : Hid (Bits w ⟨a, c, l⟩) := hx
  simp only at hl ⊢
  simp only [Wd.v]
  obtain ⟨Q, hQ⟩ : ∃ Q : List Bool → List (List Bool) → Prop, ∀ d T, Q d T ↔ Left l d T := ⟨_, fun _ _ => Iff.rfl⟩
  obtain ⟨N, hN⟩ : ∃ N : Prop, N ↔ ∀ ts, l ≠ frm ts := ⟨_, Iff.rfl⟩
  have QF : Hid (¬ flAt l 0 → N) := fun h => hN.2 (not_first h)
  have Q0 : Hid (flAt l 0 → 8 ≤ l.length ∧ Q (l.drop 8) []) := fun h => by rw [hQ]; exact ⟨(found_zero h).1, 8, (found_zero h).2, rfl⟩
  have QL : Hid (∀ d T, Q d T → T.length ≤ 1000 ∧ d.length ≤ l.length) := fun d T h => by
    obtain ⟨k, h', rfl⟩ := (hQ d T).1 h
    have := found_len h'
    rw [List.length_drop]; omega
  have QE : Hid (∀ d T, Q d T → d.length = 0 → l = frm T) := fun d T h h0 => by
    obtain ⟨k, h', rfl⟩ := (hQ d T).1 h
    have h2 := h'.2
    rw [List.eq_nil_of_length_eq_zero h0, List.append_nil] at h2
    exact h2
  have Q1 : Hid (∀ d T, Q d T → 0 < d.length → (∀ j, ¬ flAt d j) → N) := fun d T h hk hn => by
    obtain ⟨k, h', rfl⟩ := (hQ d T).1 h
    rw [List.length_drop] at hk
    exact hN.2 (found_none h' (by omega) hn)
  have Q2 : Hid (∀ e d T, Q d T → flAt d e → (∀ j, j < e → ¬ flAt d j) → br 0 (d.take e) = none → N) := fun e d T h h1 h2 h3 => by
    obtain ⟨k, h', rfl⟩ := (hQ d T).1 h
    exact hN.2 (found_bad h' h1 h2 h3)
  have Q3 : Hid (∀ e t d T, Q d T → flAt d e → br 0 (d.take e) = some t → Q (d.drop (e + 8)) (T ++ [t])) := fun e t d T h h1 h2 => by
    obtain ⟨k, h', rfl⟩ := (hQ d T).1 h
    rw [hQ]
    exact ⟨_, (found_next h' h1 h2).2, by rw [List.drop_drop]⟩
  have HN : Hid (N → ∀ ts, l ≠ frm ts) := hN.1
  have hn1 := hx.1
  have hn2 := hx.2.1
  simp only at hn1 hn2
  clear hx hQ hN
  obtain ⟨n, hn⟩ : ∃ n, l.length = n := ⟨_, rfl⟩
  have LN : Hid (l.length = n) := hn
  rw [hn] at hl Q0 QL hn1 ⊢
  clear hn
  go_enter Try.func26, Try.ntmps26
  go_wp2_with fail
  refine (flag_any w).mono ?_
  rintro e w1 ⟨v, rfl, O⟩
  obtain ⟨⟨fa, fc, l5⟩, rfl, e5, _⟩ := O.bits
  simp only at e5
  subst e5
  have E1 : Hid (Ext w w1) := O.1
  clear O
  simp only [Wd.v, show fl.length = 8 from rfl]
  have c1 := flagIn_any ⟨a, c, l⟩ w1 (XB.out.ext E1.out)
  simp only [Wd.v, LN.out] at c1
  go_wp2_with fail
  refine c1.mono ?_
  rintro e w2 ⟨E, z, rfl, hz⟩
  have E2 : Hid (Ext w w2) := E1.out.trans E
  clear c1 E E1
  rcases hz with ⟨rfl, hz⟩ | ⟨k, rfl, hz, hz2⟩
  · have NN : Hid N := QF.out (hz 0)
    clear hz QF Q0 QL QE Q1 Q2 Q3
    go_wp2
    go_ret2
    first | exact ⟨E2.out, Or.inl ⟨rfl, HN.out NN.out⟩⟩ | exact ⟨E2.out, rfl, HN.out NN.out⟩
  · cases k with
    | succ k =>
      have NN : Hid N := QF.out (hz2 0 (by omega))
      have hk0 : (((k + 1 : Nat) : Int) == 0) = false := by rw [beq_eq_false_iff_ne]; omega
      generalize k + 1 = k1 at *
      clear hz hz2 QF Q0 QL QE Q1 Q2 Q3
      go_wp2
      go_ret2
      first | exact ⟨E2.out, Or.inl ⟨rfl, HN.out NN.out⟩⟩ | exact ⟨E2.out, rfl, HN.out NN.out⟩
    | zero =>
      obtain ⟨h8, q0⟩ := Q0.out hz
      have Q0' : Hid (Q (l.drop 8) []) := q0
      clear hz hz2 QF Q0 q0
      obtain ⟨yb, yd, sb, B2⟩ := part_back XB.out 8 n LN.out h8
      have sb : ∀ V, (Instr.slice 22 (.slice a n c) (some (.int .i64 8)) none none).run Try.prog V = .ok (.slice yb (n - 8) yd) V := sb
      have B2' : Hid (Bits w ⟨yb, yd, l.drop 8⟩) := B2
      have D8 : Hid ((l.drop 8).length = n - 8) := by show _ = _; rw [List.length_drop, LN.out]
      clear B2 XB
      obtain ⟨d8, hd8⟩ : ∃ d8, l.drop 8 = d8 := ⟨_, rfl⟩
      rw [hd8] at Q0' B2' D8
      obtain ⟨n8, hn8⟩ : ∃ n8, n - 8 = n8 := ⟨_, rfl⟩
      rw [hn8] at sb D8
      have hn8' : n8 ≤ n := by omega
      clear hd8 hn8
      go_wp2
      go_loopg [5, 6, 7, 8, 9] n (fun gg s5 s6 _ _ _ wr => ∃ (d : List Bool) (ya : Option Addr) (m yc : Nat) (X : List Wd) (sv : Value), m ≤ gg ∧ m ≤ n ∧ s6 = .slice ya m yc ∧ sv = s5 ∧ Hid (d.length = m) ∧ Hid (Q d (X.map (·.l))) ∧ Aside (Bits w ⟨ya, yc, d⟩) ∧ Aside (OwnT w wr sv X))
      case atStart => exact ⟨d8, yb, n8, yd, [], _, by omega, by omega, rfl, rfl, D8.out, Q0'.out, B2'.out, OwnT.nil E2.out⟩
      case round =>
        obtain ⟨d, ya, m, yc, X, s5, hgg, hmn, rfl, rfl, HD, HQ, BB, OO⟩ := hrel
        have B1 : Hid (Bits w ⟨ya, yc, d⟩) := BB.out
        have O1 : Hid (OwnT w wr s5 X) := OO.out
        clear BB OO Q0' B2' D8 E2
        obtain ⟨hX, hd⟩ := QL.out d _ HQ.out
        rw [List.length_map] at hX
        have hX' : Hid (X.length ≤ 10000) := by show _ ≤ _; omega
        clear hX hd
        by_cases h0 : 0 < m
        · have h0z : (m : Int) > 0 := by omega
          have q1 := Q1.out d _ HQ.out (by rw [HD.out]; exact h0)
          have q2 : Hid (∀ e, flAt d e → (∀ j, j < e → ¬ flAt d j) → br 0 (d.take e) = none → N) := fun e => Q2.out e d _ HQ.out
          have q3 : Hid (∀ e t, flAt d e → br 0 (d.take e) = some t → Q (d.drop (e + 8)) (X.map (·.l) ++ [t])) := fun e t => Q3.out e t d _ HQ.out
          have c1 := flagIn_any ⟨ya, yc, d⟩ wr (B1.out.ext O1.out.ext)
          simp only [Wd.v, HD.out] at c1
          clear Q1 Q2 Q3 QE QL HQ
          go_wp2_with fail
          refine c1.mono ?_
          rintro e w3 ⟨E, z, rfl, hz⟩
          have O3 : Hid (OwnT w w3 s5 X) := O1.out.mono E
          clear c1 E O1
          rcases hz with ⟨rfl, hz⟩ | ⟨e, rfl, hz, hz2⟩
          · have NN : Hid N := q1 hz
            clear hz q1 q2 q3
            go_wp2
            go_ret2
            first | exact ⟨O3.out.ext, Or.inl ⟨rfl, HN.out NN.out⟩⟩ | exact ⟨O3.out.ext, rfl, HN.out NN.out⟩
          · have hez : ¬ (e : Int) < 0 := by omega
            have h8e := flAt_le hz
            rw [HD.out] at h8e
            have q2' : Hid (br 0 (d.take e) = none → N) := q2.out e hz hz2
            have q3' : Hid (∀ t, br 0 (d.take e) = some t → Q (d.drop (e + 8)) (X.map (·.l) ++ [t])) := fun t => q3.out e t hz
            clear hz hz2 q1 q2 q3
            obtain ⟨sf1, BF⟩ := part_front B1.out e m HD.out (by omega)
            obtain ⟨ub, ud, sb1, BK⟩ := part_back B1.out (e + 8) m HD.out h8e
            have hc8 : ((e + 8 : Nat) : Int) = (e : Int) + 8 := by omega
            rw [hc8] at sb1
            have BK' : Hid (Bits w ⟨ub, ud, d.drop (e + 8)⟩) := BK
            have DK : Hid ((d.drop (e + 8)).length = m - (e + 8)) := by show _ = _; rw [List.length_drop, HD.out]
            have c2 := bared_any ⟨ya, yc, d.take e⟩ (by show (d.take e).length ≤ _; rw [List.length_take]; omega) w3 (BF.ext O3.out.ext)
            simp only [Wd.v, show (d.take e).length = e by rw [List.length_take, HD.out]; omega] at c2
            clear BK BF B1 hc8
            generalize d.drop (e + 8) = d2 at *
            obtain ⟨m2, hm2⟩ : ∃ m2, m - (e + 8) = m2 := ⟨_, rfl⟩
            rw [hm2] at DK sb1
            have hm2' : m2 < m := by omega
            clear hm2
            go_wp2_with fail
            refine c2.mono ?_
            rintro e2 w4 ⟨v4, rfl, E4, O4⟩
            have O4' : Hid (OwnT w w4 s5 X) := O3.out.mono E4
            clear c2
            cases hbr : br 0 (d.take e) with
            | none =>
              have NN : Hid N := q2'.out hbr
              clear hbr O4 E4 q2' q3' O3
              go_wp2
              go_ret2
              first | exact ⟨O4'.out.ext, Or.inl ⟨rfl, HN.out NN.out⟩⟩ | exact ⟨O4'.out.ext, rfl, HN.out NN.out⟩
            | some t =>
              have NQ : Hid (Q d2 (X.map (·.l) ++ [t])) := q3'.out t hbr
              obtain ⟨y, rfl, hyl, hyb, hyf⟩ := OwnB.far O3.out (O4 t hbr)
              have NQ' : Hid (Q d2 ((X ++ [y]).map (·.l))) := by
                show Q _ _
                rw [List.map_append, List.map_singleton, hyl]
                exact NQ.out
              have YB : Hid (Bits w4 y) := hyb
              have YF : Hid (Far y s5) := hyf
              clear hbr O4 E4 q2' q3' O3 hyl hyb hyf NQ
              go_wp2_with (at_builtin; refine wpList_appendT rfl _ _ rfl w w4 s5 (by rfl) X O4'.out y _ (by rfl) (by rfl) YB.out YF.out hX'.out ?_; intro v5 w5 O5)
              have O5' : Hid (OwnT w w5 v5 (X ++ [y])) := O5
              clear O5 O4'
              go_wp2
              go_roundg m2
              case measure => omega
              case rel => exact ⟨d2, ub, m2, ud, X ++ [y], _, by omega, by omega, rfl, rfl, DK.out, NQ'.out, BK'.out, O5'.out⟩
        · obtain rfl : m = 0 := by omega
          have HL : Hid (l = frm (X.map (·.l))) := QE.out d _ HQ.out HD.out
          clear Q1 Q2 Q3 QE QL HQ
          go_wp2
          go_ret2
          first | exact ⟨O1.out.ext, Or.inr ⟨_, X, rfl, HL.out, O1.out⟩⟩ | exact ⟨O1.out.ext, X, HL.out, O1.out⟩
end Go.Proofs.Ytglajpmifhecgaa
