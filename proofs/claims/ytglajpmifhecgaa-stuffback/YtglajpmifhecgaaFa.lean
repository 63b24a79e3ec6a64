/-
  stuff.longer, stuff.stuffed, stuff.bared; stuff.Stuff, stuff.Bare.
-/
import Derived.Test.YtglajpmifhecgaaSf
import Derived.Test.YtglajpmifhecgaaRw
import Derived.Test.YtglajpmifhecgaaOw
import Derived.Test.YtglajpmifhecgaaEq
import Derived.Laws.OwnMore
namespace Go.Proofs.Ytglajpmifhecgaa
open Go.RowKit
set_option linter.unusedVariables false

theorem sf_len : ∀ (l : List Bool) (r : Nat), (sf r l).length ≤ 2 * l.length + 1
  | [], r => by
    by_cases h : r < 5
    · rw [sf_nil h]; simp
    · rw [sf_owed (by omega), sf_nil (by omega)]; simp
  | b :: l, r => by
    by_cases h : r < 5
    · have := sf_len l (lr r b)
      rw [sf_low h, List.length_cons, List.length_cons]; omega
    · have := sf_len l (lr 0 b)
      rw [sf_owed (by omega), sf_low (by omega), List.length_cons, List.length_cons, List.length_cons]; omega
theorem drop_at {l : List Bool} {k : Nat} (h : k < l.length) : l.drop k = l.getD k false :: l.drop (k + 1) := by
  rw [List.drop_eq_getElem_cons h]
  simp [List.getD_eq_getElem?_getD, h]

theorem longer_any (r : Nat) (b : Bool) (hr : r < 1000) (w : World) : Calls Try.prog 27 #[.int .i64 r, .bool b] w fun e w' => e = .returned (.int .i64 (lr r b : Nat)) ∧ w' = w := by
  cases b
  · go_enter Try.func27, Try.ntmps27
    go_wp2
    go_ret
    exact ⟨rfl, rfl⟩
  · go_enter Try.func27, Try.ntmps27
    go_wp2
    go_ret
    exact ⟨by rfl, rfl⟩

set_option maxHeartbeats 1000000 in
/-- stuff.stuffed. -/
theorem stuffed_any (x : Wd) (hl : x.l.length ≤ 10000) (w : World) (hx : Bits w x) : Calls Try.prog 19 #[x.v] w fun e w' => ∃ v, e = .returned v ∧ OwnB w w' v (sf 0 x.l) := by
  obtain ⟨a, c, l⟩ := x
  obtain ⟨h1, h2, _, b, o, h4, h5⟩ := hx
  simp only at h1 h2 h4 h5 hl ⊢
  simp only [Wd.v]
  obtain ⟨B, hB⟩ : ∃ B : Nat → Bool, ∀ k, B k = l.getD k false := ⟨_, fun _ => rfl⟩
  obtain ⟨R, hR⟩ : ∃ R : Nat → Nat → List Bool → Prop, ∀ k r L, R k r L ↔ (r < 5 ∧ L ++ sf r (l.drop k) = sf 0 l) := ⟨_, fun _ _ _ => Iff.rfl⟩
  have HC : Hid (∀ i, i < l.length → w.cell? ⟨b, o + i, none⟩ = some (.bool (B i))) := fun i hi => by rw [hB]; exact h5 i hi
  have LOW : Hid (∀ k r L, R k r L → r < 5) := fun k r L h => ((hR _ _ _).1 h).1
  have LN : Hid (∀ k r L, R k r L → L.length ≤ 20001) := fun k r L h => by
    have h2 := congrArg List.length ((hR _ _ _).1 h).2
    have h3 := sf_len l 0
    rw [List.length_append] at h2
    omega
  have NX : Hid (∀ k r L, R k r L → k < l.length → lr r (B k) ≠ 5 → R (k + 1) (lr r (B k)) (L ++ [B k])) := fun k r L h hk h5 => by
    rw [hR] at h ⊢
    rw [drop_at hk, sf_low h.1, ← hB] at h
    have := lr_le h.1 (B k)
    refine ⟨by omega, ?_⟩
    rw [List.append_assoc]
    exact h.2
  have NF : Hid (∀ k r L, R k r L → k < l.length → lr r (B k) = 5 → R (k + 1) 0 (L ++ [B k] ++ [false])) := fun k r L h hk h5 => by
    rw [hR] at h ⊢
    rw [drop_at hk, sf_low h.1, ← hB, h5, sf_owed (Nat.le_refl _)] at h
    refine ⟨by omega, ?_⟩
    rw [List.append_assoc, List.append_assoc]
    exact h.2
  have Z0 : Hid (R 0 0 []) := by
    show R 0 0 []
    rw [hR]
    exact ⟨by omega, rfl⟩
  have ZN : Hid (∀ r L, R l.length r L → L = sf 0 l) := fun r L h => by
    rw [hR, List.drop_length, ] at h
    rw [sf_nil h.1, List.append_nil] at h
    exact h.2
  clear h5 hB hR
  generalize sf 0 l = T at *
  generalize l.length = n at *
  unfold maxLen at h2
  go_enter Try.func19, Try.ntmps19
  go_wp2
  go_loopg [3, 4, 6, 9] n (fun gg s3 s4 _ s9 wr => ∃ (k r : Nat) (L : List Bool) (sv : Value), k ≤ n ∧ n - k ≤ gg ∧ s4 = .int .i64 r ∧ s9 = .int .i64 k ∧ sv = s3 ∧ Hid (R k r L) ∧ Aside (OwnB w wr sv L))
  case atStart => exact ⟨0, 0, [], _, Nat.zero_le _, by omega, rfl, rfl, rfl, Z0.out, OwnB.nil (Ext.refl _)⟩
  case round =>
    obtain ⟨k, r, L, s3, hk, hgg, rfl, rfl, rfl, HR, OO⟩ := hrel
    by_cases hlt : k < n
    · have hltz : (k : Int) < (n : Int) := by omega
      obtain rfl := h4 (by omega)
      have O1 : Hid (OwnB w wr s3 L) := OO.out
      have e1 := O1.out.1.cell (HC.out k hlt)
      have hr := LOW.out k r L HR.out
      have hfl : Hid (L.length + 1 ≤ 140737488355328) := by have := LN.out k r L HR.out; show _ ≤ _; omega
      have hfl2 : Hid ((L ++ [B k]).length + 1 ≤ 140737488355328) := by have := LN.out k r L HR.out; show _ ≤ _; rw [List.length_append, List.length_singleton]; omega
      have nx := NX.out k r L HR.out hlt
      have nf := NF.out k r L HR.out hlt
      clear OO HC LOW LN NX NF Z0 ZN HR
      generalize B k = q at *
      go_wp2_with (at_builtin; refine wpList_appendBit rfl _ _ rfl w wr s3 (by rfl) L O1.out q (by rfl) hfl.out ?_; intro v2 w2 O2)
      have O2' : Hid (OwnB w w2 v2 (L ++ [q])) := O2
      clear O2 O1
      refine (longer_any r q (by omega) w2).mono ?_
      rintro e w3 ⟨rfl, rfl⟩
      have hr5 := lr_le hr q
      generalize lr r q = r' at *
      by_cases h5 : r' = 5
      · subst h5
        have NX' : Hid (R (k + 1) 0 (L ++ [q] ++ [false])) := nf rfl
        clear nx nf
        go_wp2_with (at_builtin; refine wpList_appendBit rfl _ _ rfl w w3 v2 (by rfl) (L ++ [q]) O2'.out false (by rfl) hfl2.out ?_; intro v4 w4 O4)
        have O4' : Hid (OwnB w w4 v4 (L ++ [q] ++ [false])) := O4
        clear O4
        go_wp2
        go_roundg (n - (k + 1))
        case measure => omega
        case rel => exact ⟨k + 1, 0, _, _, by omega, by omega, by go_num, by go_num, rfl, NX'.out, O4'.out⟩
      · have NX' : Hid (R (k + 1) r' (L ++ [q])) := nx h5
        have h5z : ((r' : Int) == 5) = false := by rw [beq_eq_false_iff_ne]; omega
        clear nx nf
        go_wp2
        go_roundg (n - (k + 1))
        case measure => omega
        case rel => exact ⟨k + 1, r', _, _, by omega, by omega, by go_num, by go_num, rfl, NX'.out, O2'.out⟩
    · obtain rfl : k = n := by omega
      have e := ZN.out r L HR.out
      subst e
      clear HC LOW LN NX NF Z0 ZN HR
      go_wp2
      go_ret
      exact ⟨s3, rfl, OO.out⟩

set_option maxHeartbeats 1000000 in
/-- stuff.bared. -/
theorem bared_any (x : Wd) (hl : x.l.length ≤ 10000) (w : World) (hx : Bits w x) : Calls Try.prog 20 #[x.v] w fun e w' => ∃ v, e = .returned (.tuple #[v, .bool (br 0 x.l).isSome]) ∧ Ext w w' ∧ ∀ t, br 0 x.l = some t → OwnB w w' v t := by
  obtain ⟨a, c, l⟩ := x
  obtain ⟨h1, h2, _, b, o, h4, h5⟩ := hx
  simp only at h1 h2 h4 h5 hl ⊢
  simp only [Wd.v]
  obtain ⟨B, hB⟩ : ∃ B : Nat → Bool, ∀ k, B k = l.getD k false := ⟨_, fun _ => rfl⟩
  obtain ⟨R, hR⟩ : ∃ R : Nat → Nat → List Bool → Prop, ∀ k r L, R k r L ↔ (r ≤ 5 ∧ L.length ≤ k ∧ br 0 l = (br r (l.drop k)).map (L ++ ·)) := ⟨_, fun _ _ _ => Iff.rfl⟩
  have HC : Hid (∀ i, i < l.length → w.cell? ⟨b, o + i, none⟩ = some (.bool (B i))) := fun i hi => by rw [hB]; exact h5 i hi
  have LOW : Hid (∀ k r L, R k r L → r ≤ 5 ∧ L.length ≤ k) := fun k r L h => ⟨((hR _ _ _).1 h).1, ((hR _ _ _).1 h).2.1⟩
  have br_low : ∀ (r : Nat) (q : Bool) (m : List Bool), r < 5 → br r (q :: m) = (br (lr r q) m).map (q :: ·) := fun r q m h => by
    show (if r < 5 then _ else _) = _
    rw [if_pos h]
  have br_high : ∀ (q : Bool) (m : List Bool), br 5 (q :: m) = if q then none else br 0 m := fun q m => by
    show (if 5 < 5 then _ else _) = _
    rw [if_neg (by decide)]
  have NX : Hid (∀ k r L, R k r L → k < l.length → r < 5 → R (k + 1) (lr r (B k)) (L ++ [B k])) := fun k r L h hk h5 => by
    rw [hR] at h ⊢
    rw [drop_at hk, br_low _ _ _ h5, ← hB] at h
    refine ⟨lr_le h5 _, by rw [List.length_append, List.length_singleton]; omega, ?_⟩
    rw [h.2.2, Option.map_map]
    congr 1
    funext m
    show L ++ (B k :: m) = L ++ [B k] ++ m
    rw [List.append_assoc]; rfl
  have NZ : Hid (∀ k L, R k 5 L → k < l.length → B k = false → R (k + 1) 0 L) := fun k L h hk h5 => by
    rw [hR] at h ⊢
    rw [drop_at hk, br_high, ← hB, h5] at h
    exact ⟨by omega, by omega, h.2.2⟩
  have NO : Hid (∀ k L, R k 5 L → k < l.length → B k = true → br 0 l = none) := fun k L h hk h5 => by
    rw [hR] at h
    rw [drop_at hk, br_high, ← hB, h5] at h
    exact h.2.2
  have Z0 : Hid (R 0 0 []) := by
    show R 0 0 []
    rw [hR]
    exact ⟨by omega, Nat.le_refl _, by rw [List.drop_zero]; cases br 0 l <;> rfl⟩
  have ZN : Hid (∀ r L, R l.length r L → br 0 l = if r < 5 then some L else none) := fun r L h => by
    rw [hR, List.drop_length] at h
    rw [h.2.2]
    show (if r < 5 then _ else _ : Option (List Bool)).map (L ++ ·) = _
    by_cases h5 : r < 5
    · rw [if_pos h5, if_pos h5]; show some (L ++ []) = _; rw [List.append_nil]
    · rw [if_neg h5, if_neg h5]; rfl
  clear h5 hB hR br_low br_high
  generalize br 0 l = T at *
  generalize l.length = n at *
  unfold maxLen at h2
  go_enter Try.func20, Try.ntmps20
  go_wp2
  go_loopg [4, 5, 7, 10] n (fun gg s4 s5 _ s10 wr => ∃ (k r : Nat) (L : List Bool) (sv : Value), k ≤ n ∧ n - k ≤ gg ∧ s5 = .int .i64 r ∧ s10 = .int .i64 k ∧ sv = s4 ∧ Hid (R k r L) ∧ Aside (OwnB w wr sv L))
  case atStart => exact ⟨0, 0, [], _, Nat.zero_le _, by omega, rfl, rfl, rfl, Z0.out, OwnB.nil (Ext.refl _)⟩
  case round =>
    obtain ⟨k, r, L, s4, hk, hgg, rfl, rfl, rfl, HR, OO⟩ := hrel
    have O1 : Hid (OwnB w wr s4 L) := OO.out
    have hlow := LOW.out k r L HR.out
    clear OO
    by_cases hlt : k < n
    · have hltz : (k : Int) < (n : Int) := by omega
      obtain rfl := h4 (by omega)
      have e1 := O1.out.1.cell (HC.out k hlt)
      by_cases hr : r < 5
      · have hrz : (r : Int) < 5 := by omega
        have hfl : Hid (L.length + 1 ≤ 140737488355328) := by show _ ≤ _; omega
        have NX' := NX.out k r L HR.out hlt hr
        clear HC LOW NX NZ NO Z0 ZN HR
        generalize B k = q at *
        have NX' : Hid (R (k + 1) (lr r q) (L ++ [q])) := NX'
        go_wp2_with (at_builtin; refine wpList_appendBit rfl _ _ rfl w wr s4 (by rfl) L O1.out q (by rfl) hfl.out ?_; intro v2 w2 O2)
        have O2' : Hid (OwnB w w2 v2 (L ++ [q])) := O2
        clear O2 O1
        refine (longer_any r q (by omega) w2).mono ?_
        rintro e w3 ⟨rfl, rfl⟩
        have hr5 := lr_le hr q
        generalize lr r q = r' at *
        go_wp2
        go_roundg (n - (k + 1))
        case measure => omega
        case rel => exact ⟨k + 1, r', _, _, by omega, by omega, by go_num, by go_num, rfl, NX'.out, O2'.out⟩
      · obtain rfl : r = 5 := by omega
        have nz := NZ.out k L HR.out hlt
        have no := NO.out k L HR.out hlt
        clear HC LOW NX NZ NO Z0 ZN HR hr
        generalize B k = q at *
        cases q
        · have NX' : Hid (R (k + 1) 0 L) := nz rfl
          clear nz no
          go_wp2
          go_roundg (n - (k + 1))
          case measure => omega
          case rel => exact ⟨k + 1, 0, _, _, by omega, by omega, by go_num, by go_num, rfl, NX'.out, O1.out⟩
        · have e := no rfl
          subst e
          clear nz no
          go_wp2
          go_ret2
          first | exact ⟨_, rfl, O1.out.1, fun t h => (by cases h)⟩ | exact O1.out.1 | exact ⟨⟨_, rfl⟩, O1.out.1⟩
    · obtain rfl : k = n := by omega
      have e := ZN.out r L HR.out
      clear HC LOW NX NZ NO Z0 ZN HR
      by_cases hr : r < 5
      · have hrz : (r : Int) < 5 := by omega
        rw [if_pos hr] at e
        subst e
        go_wp2
        go_ret2
        first | exact ⟨s4, rfl, O1.out.1, fun t h => (by injection h with h; subst h; exact O1.out)⟩ | exact ⟨O1.out.1, fun t h => (by injection h with h; subst h; exact O1.out)⟩ | exact ⟨O1.out.1, O1.out⟩
      · have hrz : ¬ (r : Int) < 5 := by omega
        rw [if_neg hr] at e
        subst e
        go_wp2
        go_ret2
        first | exact ⟨s4, rfl, O1.out.1, fun t h => (by cases h)⟩ | exact O1.out.1 | exact ⟨⟨_, rfl⟩, O1.out.1⟩

theorem Stuff_large (x : Wd) (hl : 64 < x.l.length) (hm : x.l.length ≤ maxLen) (w : World) : Calls Try.prog 9 #[x.v] w fun e w' => e = .returned (.tuple #[.slice none 0 0, .int .i64 1]) ∧ w' = w := by
  simp only [Wd.v]
  generalize x.l.length = n at *
  unfold maxLen at hm
  have hz : (n : Int) > 64 := by omega
  go_enter Try.func9, Try.ntmps9
  go_wp2
  go_ret2
  exact ⟨rfl, rfl⟩
theorem Stuff_good (x : Wd) (hl : x.l.length ≤ 64) (w : World) (hx : Bits w x) : Calls Try.prog 9 #[x.v] w fun e w' => ∃ v, e = .returned (.tuple #[v, .int .i64 0]) ∧ OwnB w w' v (sf 0 x.l) := by
  have c1 := stuffed_any x (by omega) w hx
  simp only [Wd.v] at *
  clear hx
  generalize sf 0 x.l = T at *
  generalize x.l.length = n at *
  have hz : ¬ (n : Int) > 64 := by omega
  go_enter Try.func9, Try.ntmps9
  go_wp2_with fail
  refine c1.mono ?_
  rintro e w1 ⟨v, rfl, O⟩
  clear c1
  have O1 : Hid (OwnB w w1 v T) := O
  clear O
  go_wp2
  go_ret2
  exact ⟨v, rfl, O1.out⟩
theorem Bare_large (x : Wd) (hl : 64 < x.l.length) (hm : x.l.length ≤ maxLen) (w : World) : Calls Try.prog 12 #[x.v] w fun e w' => e = .returned (.tuple #[.slice none 0 0, .int .i64 1]) ∧ w' = w := by
  simp only [Wd.v]
  generalize x.l.length = n at *
  unfold maxLen at hm
  have hz : (n : Int) > 64 := by omega
  go_enter Try.func12, Try.ntmps12
  go_wp2
  go_ret2
  exact ⟨rfl, rfl⟩
theorem Bare_none (x : Wd) (hl : x.l.length ≤ 64) (hb : br 0 x.l = none) (w : World) (hx : Bits w x) : Calls Try.prog 12 #[x.v] w fun e w' => e = .returned (.tuple #[.slice none 0 0, .int .i64 3]) ∧ Ext w w' := by
  have c1 := bared_any x (by omega) w hx
  rw [hb] at c1
  simp only [Wd.v] at *
  clear hx hb
  generalize x.l.length = n at *
  have hz : ¬ (n : Int) > 64 := by omega
  go_enter Try.func12, Try.ntmps12
  go_wp2_with fail
  refine c1.mono ?_
  rintro e w1 ⟨v, rfl, O, _⟩
  clear c1
  have O1 : Hid (Ext w w1) := O
  clear O
  go_wp2
  go_ret2
  exact ⟨rfl, O1.out⟩
theorem Bare_good (x : Wd) (hl : x.l.length ≤ 64) (t : List Bool) (hb : br 0 x.l = some t) (w : World) (hx : Bits w x) : Calls Try.prog 12 #[x.v] w fun e w' => ∃ v, e = .returned (.tuple #[v, .int .i64 0]) ∧ OwnB w w' v t := by
  have c1 := bared_any x (by omega) w hx
  rw [hb] at c1
  simp only [Wd.v] at *
  clear hx hb
  generalize x.l.length = n at *
  have hz : ¬ (n : Int) > 64 := by omega
  go_enter Try.func12, Try.ntmps12
  go_wp2_with fail
  refine c1.mono ?_
  rintro e w1 ⟨v, rfl, _, O⟩
  clear c1
  have O1 : Hid (OwnB w w1 v t) := O t rfl
  clear O
  go_wp2
  go_ret2
  exact ⟨v, rfl, O1.out⟩
end Go.Proofs.Ytglajpmifhecgaa
