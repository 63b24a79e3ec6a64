/-
  even.least, even.put, even.countOf; quipuref.Evened, EvenPut.
-/
import Derived.Test.YtibedfdgkknoiaaCa
import Derived.Test.YtibedfdgkknoiaaDgt
namespace Go.Proofs.Ytibedfdgkknoiaa
open Go.RowKit
set_option linter.unusedVariables false

set_option maxHeartbeats 1000000 in
theorem least_any (x : Wd) (hl : x.l.length ≤ 1000) (he : x.l.length % 2 = 0) (w : World) (hx : Bits w x) : Calls Try.prog 18 #[x.v] w fun e w' => e = .returned (.int .i64 (lk x.l : Nat)) ∧ w' = w := by
  have c1 := count_any x hl w hx
  obtain ⟨a, c, l⟩ := x
  obtain ⟨h1, h2, _, b, o, h4, h5⟩ := hx
  simp only at h1 h2 h4 h5 hl he c1 ⊢
  simp only [Wd.v] at *
  unfold maxLen at h2
  obtain ⟨a1, a2, a3⟩ := lk_spec he
  obtain ⟨S, hS⟩ : ∃ S : Nat → Nat, ∀ k, S k = on (tt k l) := ⟨_, fun _ => rfl⟩
  obtain ⟨B, hB⟩ : ∃ B : Nat → Bool, ∀ k, B k = l.getD k false := ⟨_, fun _ => rfl⟩
  obtain ⟨K, hK⟩ : ∃ K : Nat, K = lk l := ⟨_, rfl⟩
  rw [← hK] at a1 a2 a3 ⊢
  have HC : Hid (∀ i, i < l.length → w.cell? ⟨b, o + i, none⟩ = some (.bool (B i))) := fun i hi => by rw [hB]; exact h5 i hi
  have NX : Hid (∀ k, k < l.length → S (k + 1) + (B k).toNat = S k + (!(B k)).toNat) := fun k h => by rw [hS, hS, hB]; exact on_next k l h
  have SL : Hid (∀ k, S k ≤ l.length) := fun k => by rw [hS]; exact Nat.le_trans (on_le _) (Nat.le_of_eq (tt_len k l))
  have SK : Hid (2 * S K = l.length) := by show _ = _; rw [hS]; exact a2
  have SN : Hid (∀ k, k < K → 2 * S k ≠ l.length) := fun k hk => by rw [hS]; exact a3 k hk
  rw [show on l = S 0 from (hS 0).symm] at c1
  clear h5 hS hB hK a2 a3 he
  generalize l.length = n at *
  go_enter Try.func18, Try.ntmps18
  go_wp2_with fail
  refine c1.mono ?_
  rintro e w1 ⟨rfl, rfl⟩
  clear c1
  go_wp2
  go_loopg [3, 4] K (fun gg s3 s4 wr => ∃ k m : Nat, k ≤ K ∧ K - k ≤ gg ∧ s4 = .int .i64 k ∧ s3 = .int .i64 m ∧ Aside (m = S k) ∧ wr = w1)
  case atStart => exact ⟨0, S 0, Nat.zero_le _, by omega, rfl, rfl, rfl, rfl⟩
  case round =>
    obtain ⟨k, m, hk, hgg, rfl, rfl, A, rfl⟩ := hrel
    have hm : m ≤ n := by rw [A.out]; exact SL.out k
    by_cases hlt : k < K
    · have hkn : (k : Int) < (n : Int) := by omega
      have hne : ((2 * (m : Int)) == (n : Int)) = false := by
        rw [beq_eq_false_iff_ne]
        have := SN.out k hlt
        rw [← A.out] at this
        omega
      obtain rfl := h4 (by omega)
      have e1 := HC.out k (by omega)
      have nx := NX.out k (by omega)
      rw [← A.out] at nx
      clear HC NX SL SK SN h4 A
      generalize B k = q at *
      cases q
      · have fin : Hid (m + 1 = S (k + 1)) := by
          show _ = _
          simp only [Bool.toNat_false, Bool.not_false, Bool.toNat_true] at nx
          omega
        clear nx
        go_wp2
        go_roundg (K - (k + 1))
        case measure => omega
        case rel => exact ⟨k + 1, m + 1, by omega, by omega, by go_num, by go_num, fin.out, rfl⟩
      · have fin : Hid (m - 1 = S (k + 1)) := by
          show _ = _
          simp only [Bool.toNat_false, Bool.not_true, Bool.toNat_true] at nx
          omega
        have hm0 : 0 < m := by
          simp only [Bool.toNat_false, Bool.not_true, Bool.toNat_true] at nx
          omega
        clear nx
        go_wp2
        go_roundg (K - (k + 1))
        case measure => omega
        case rel => exact ⟨k + 1, m - 1, by omega, by omega, by go_num, by go_num, fin.out, rfl⟩
    · obtain rfl : k = K := by omega
      have hne : ((2 * (m : Int)) == (n : Int)) = true := by
        rw [beq_iff_eq]
        have := SK.out
        rw [← A.out] at this
        omega
      clear HC NX SL SK SN A
      go_wp2
      go_ret
      exact ⟨rfl, rfl⟩

theorem two_cells (w : World) (p q : Bool) (j : Nat) (u : Value) (hj : [Value.bool p, Value.bool q][j]? = some u) : (w.alloc (.cells #[.bool p, .bool q] 4)).cell? ((⟨w.heap.size, 0, none⟩ : Addr).add j) = some u := by
  rw [Addr.add_lit]
  match j with
  | 0 =>
    rw [cell_of_row _ _ _ _ 4 (0, 0) (heap_alloc_new w _)]
    exact hj
  | 1 =>
    rw [cell_of_row _ _ _ _ 4 (0, 0) (heap_alloc_new w _)]
    exact hj
  | j + 2 => simp at hj
/-- Two bits appended to a list of one's own. -/
theorem wpList_appendTwo {ops : Array Oper} {rest : List Oper} {o : Oper} {a : Act} {Q : Exit → Act → World → Prop} (hgd : o.guard = none) (s x : Operand)
    (ho : o.op = .call { callee := .builtin .append, args := #[s, x], argTypes := #[22, 22] }) (w0 wr : World) (v : Value) (hs : a.eval s = v) (l : List Bool) (hown : OwnB w0 wr v l)
    (p q : Bool) (hx : a.eval x = .slice (some ⟨wr.heap.size, 0, none⟩) 2 2) (hb : l.length + 2 ≤ 140737488355328)
    (h : ∀ v' w', OwnB w0 w' v' (l ++ [p, q]) → wpList Try.prog ops Q rest (a.put o.dst v') w') : wpList Try.prog ops Q (o :: rest) a (wr.alloc (.cells #[.bool p, .bool q] 4)) := by
  obtain ⟨i0, hi, hz0, hz1, hz2⟩ := info_parts info4
  obtain ⟨he, hown⟩ := hown
  refine wpList_append_own _ hgd s x 22 ho w0.heap.size 4 i0 (.bool false) 1 1 Try.underlying22 hi hz0 hz1 hz2 rfl (by decide) v l.length (bv l) hs (hown.alloc _) ⟨wr.heap.size, 0, none⟩ 2 2 [.bool p, .bool q] hx rfl (two_cells wr p q) ?_ ?_ (by omega) ?_ ?_
  · intro u hu; simp at hu; rcases hu with rfl | rfl <;> rfl
  · unfold maxLen; omega
  · have := he.size; simp; omega
  · intro v' w' hown' hgr _
    refine h v' w' ⟨?_, ?_⟩
    · have e1 : Ext w0 (wr.alloc (.cells #[.bool p, .bool q] 4)) := he.alloc _
      exact Below.grown e1 hgr e1.size (fun k hk => (hown.lt k hk).1)
    · simpa using hown'

set_option maxHeartbeats 1000000 in
theorem put_any (x : Wd) (hl : x.l.length ≤ 15) (he : x.l.length % 2 = 0) (w : World) (hx : Bits w x) : Calls Try.prog 22 #[x.v] w fun e w' => ∃ v, e = .returned v ∧ OwnB w w' v (pt x.l) := by
  have c1 := least_any x (by omega) he w hx
  have hk := (lk_spec he).1
  have c2 := turned_any x (by omega) (lk x.l) hk w hx
  have hd : ∀ i, d4 (lk x.l) (i + 1) = d4 (lk x.l) i ++ [(lk x.l).testBit (3 - i)] := d4_next _
  have sb : ∀ (k : Nat) (_ : k < 16) (j : Nat) (_ : j < 4), (bits BinOp.and IntKind.i64 ((k : Int) / 2 ^ j) 1 == 1) = k.testBit j := fun k h j hj => by
    have : ∀ k : Fin 16, ∀ j : Fin 4, (bits BinOp.and IntKind.i64 ((k.val : Int) / 2 ^ j.val) 1 == 1) = k.val.testBit j.val := by decide +kernel
    exact this ⟨k, h⟩ ⟨j, hj⟩
  have sb0 := sb (lk x.l) (by omega) 0 (by decide)
  rw [Int.pow_zero, Int.ediv_one] at sb0
  have sb1 := sb (lk x.l) (by omega) 1 (by decide)
  have sb2 := sb (lk x.l) (by omega) 2 (by decide)
  have sb3 := sb (lk x.l) (by omega) 3 (by decide)
  have TL : Hid ((tt (lk x.l) x.l).length ≤ 1000) := by show _ ≤ _; rw [tt_len]; omega
  obtain ⟨F, hF⟩ : ∃ F : Nat → List Bool, ∀ i, F i = tt (lk x.l) x.l ++ dd (d4 (lk x.l) i) := ⟨_, fun _ => rfl⟩
  have F0 : Hid (tt (lk x.l) x.l = F 0) := by show _ = _; rw [hF]; exact (List.append_nil _).symm
  have F4 : Hid (pt x.l = F 4) := by show _ = _; rw [hF]; rfl
  have FN : Hid (∀ i, F (i + 1) = F i ++ [(lk x.l).testBit (3 - i), !((lk x.l).testBit (3 - i))]) := fun i => by
    rw [hF, hF, hd, dd_app, List.append_assoc]; rfl
  have FL : Hid (∀ i, i ≤ 4 → (F i).length ≤ 1000) := fun i hi => by
    rw [hF, List.length_append, tt_len, dd_len, d4_len]; omega
  rw [F4.out]
  rw [F0.out] at c2
  clear hd sb hF hx F0 F4 he TL
  simp only [Wd.v] at *
  generalize lk x.l = K at *
  generalize x.l.length = n at *
  go_enter Try.func22, Try.ntmps22
  go_wp2_with fail
  refine c1.mono ?_
  rintro e w1 ⟨rfl, rfl⟩
  clear c1
  go_wp2_with fail
  refine c2.mono ?_
  rintro e w2 ⟨v, rfl, O⟩
  have O1 : Hid (OwnB w1 w2 v (F 0)) := O
  clear c2 O
  go_wp2
  go_loopg [4, 5, 6, 12] 4 (fun gg s4 _ _ s12 wr => ∃ (i : Nat) (sv : Value), i ≤ 4 ∧ 4 - i ≤ gg ∧ s12 = .int .i64 i ∧ sv = s4 ∧ Aside (OwnB w1 wr sv (F i)))
  case atStart => exact ⟨0, _, by omega, by omega, rfl, rfl, O1.out⟩
  case round =>
    obtain ⟨i, s4, hi, hgg, rfl, rfl, OO⟩ := hrel
    have O2 : Hid (OwnB w1 wr s4 (F i)) := OO.out
    clear OO O1
    have fl := FL.out i hi
    have fn := FN.out i
    obtain rfl | rfl | rfl | rfl | rfl : i = 0 ∨ i = 1 ∨ i = 2 ∨ i = 3 ∨ i = 4 := by omega
    · have O2 : Hid (OwnB w1 wr s4 (F 0)) := O2.out
      have fn : Hid (F 1 = F 0 ++ [K.testBit 3, !(K.testBit 3)]) := fn
      have fl : Hid ((F 0).length + 2 ≤ 140737488355328) := by show _ ≤ _; omega
      have sb : Hid (_ = K.testBit 3) := sb3
      clear sb0 sb1 sb2 sb3 FN FL
      go_wp2_with (at_builtin; refine wpList_appendTwo rfl _ _ rfl w1 wr s4 (by rfl) _ O2.out _ _ (by rfl) fl.out ?_; intro v2 w2 O3)
      have O4 : Hid (OwnB w1 w2 v2 (F 1)) := by
        show OwnB _ _ _ _
        rw [fn.out, ← sb.out]
        exact O3
      clear O3 O2
      go_wp2
      go_roundg (3 - 0)
      case measure => omega
      case rel => exact ⟨1, _, by omega, by omega, by go_num, rfl, O4.out⟩
    · have O2 : Hid (OwnB w1 wr s4 (F 1)) := O2.out
      have fn : Hid (F 2 = F 1 ++ [K.testBit 2, !(K.testBit 2)]) := fn
      have fl : Hid ((F 1).length + 2 ≤ 140737488355328) := by show _ ≤ _; omega
      have sb : Hid (_ = K.testBit 2) := sb2
      clear sb0 sb1 sb2 sb3 FN FL
      go_wp2_with (at_builtin; refine wpList_appendTwo rfl _ _ rfl w1 wr s4 (by rfl) _ O2.out _ _ (by rfl) fl.out ?_; intro v2 w2 O3)
      have O4 : Hid (OwnB w1 w2 v2 (F 2)) := by
        show OwnB _ _ _ _
        rw [fn.out, ← sb.out]
        exact O3
      clear O3 O2
      go_wp2
      go_roundg (3 - 1)
      case measure => omega
      case rel => exact ⟨2, _, by omega, by omega, by go_num, rfl, O4.out⟩
    · have O2 : Hid (OwnB w1 wr s4 (F 2)) := O2.out
      have fn : Hid (F 3 = F 2 ++ [K.testBit 1, !(K.testBit 1)]) := fn
      have fl : Hid ((F 2).length + 2 ≤ 140737488355328) := by show _ ≤ _; omega
      have sb : Hid (_ = K.testBit 1) := sb1
      clear sb0 sb1 sb2 sb3 FN FL
      go_wp2_with (at_builtin; refine wpList_appendTwo rfl _ _ rfl w1 wr s4 (by rfl) _ O2.out _ _ (by rfl) fl.out ?_; intro v2 w2 O3)
      have O4 : Hid (OwnB w1 w2 v2 (F 3)) := by
        show OwnB _ _ _ _
        rw [fn.out, ← sb.out]
        exact O3
      clear O3 O2
      go_wp2
      go_roundg (3 - 2)
      case measure => omega
      case rel => exact ⟨3, _, by omega, by omega, by go_num, rfl, O4.out⟩
    · have O2 : Hid (OwnB w1 wr s4 (F 3)) := O2.out
      have fn : Hid (F 4 = F 3 ++ [K.testBit 0, !(K.testBit 0)]) := fn
      have fl : Hid ((F 3).length + 2 ≤ 140737488355328) := by show _ ≤ _; omega
      have sb : Hid (_ = K.testBit 0) := sb0
      clear sb0 sb1 sb2 sb3 FN FL
      go_wp2_with (at_builtin; refine wpList_appendTwo rfl _ _ rfl w1 wr s4 (by rfl) _ O2.out _ _ (by rfl) fl.out ?_; intro v2 w2 O3)
      have O4 : Hid (OwnB w1 w2 v2 (F 4)) := by
        show OwnB _ _ _ _
        rw [fn.out, ← sb.out]
        exact O3
      clear O3 O2
      go_wp2
      go_roundg (3 - 3)
      case measure => omega
      case rel => exact ⟨4, _, by omega, by omega, by go_num, rfl, O4.out⟩
    · clear sb0 sb1 sb2 sb3 FN FL fn
      have O2 : Hid (OwnB w1 wr s4 (F 4)) := O2.out
      go_wp2
      go_ret
      exact ⟨_, rfl, O2.out⟩

set_option maxHeartbeats 1000000 in
theorem countOf_any (x : Wd) (hl : x.l.length = 8) (w : World) (hx : Bits w x) : Calls Try.prog 24 #[x.v] w fun e w' => e = .returned (.int .i64 (cn x.l 4 : Nat)) ∧ w' = w := by
  obtain ⟨a, c, l⟩ := x
  obtain ⟨h1, h2, _, b, o, h4, h5⟩ := hx
  simp only at h1 h2 h4 h5 hl ⊢
  simp only [Wd.v]
  unfold maxLen at h2
  obtain ⟨S, hS⟩ : ∃ S : Nat → Nat, ∀ k, S k = cn l k := ⟨_, fun _ => rfl⟩
  obtain ⟨B, hB⟩ : ∃ B : Nat → Bool, ∀ k, B k = l.getD k false := ⟨_, fun _ => rfl⟩
  rw [hl] at h1 h4 h5 ⊢
  obtain rfl := h4 (by decide)
  have HC : Hid (∀ i, i < 8 → w.cell? ⟨b, o + i, none⟩ = some (.bool (B i))) := fun i hi => by rw [hB]; exact h5 i hi
  have NX : Hid (∀ k, S (k + 1) = 2 * S k + (B (2 * k)).toNat) := fun k => by rw [hS, hS, hB]; rfl
  have SL : Hid (∀ k, k ≤ 4 → S k < 16) := fun k hk => by
    rw [hS]
    have h1 := cn_low l k
    have h2 : 2 ^ k ≤ 2 ^ 4 := Nat.pow_le_pow_right (by decide) hk
    omega
  have Z0 : Hid (S 0 = 0) := hS 0
  rw [← hS]
  clear h5 hS hB h4 hl
  go_enter Try.func24, Try.ntmps24
  go_wp2
  go_loopg [3, 4, 5] 4 (fun gg s3 _ s5 wr => ∃ k n : Nat, k ≤ 4 ∧ 4 - k ≤ gg ∧ s5 = .int .i64 k ∧ s3 = .int .i64 n ∧ Aside (n = S k) ∧ wr = w)
  case atStart => exact ⟨0, 0, Nat.zero_le _, by omega, rfl, rfl, Z0.out.symm, rfl⟩
  case round =>
    obtain ⟨k, n, hk, hgg, rfl, rfl, A, rfl⟩ := hrel
    have hn : n < 16 := by rw [A.out]; exact SL.out k hk
    by_cases hlt : k < 4
    · have hltz : (k : Int) < 4 := by omega
      have e1 := HC.out (2 * k) (by omega)
      have nx := NX.out k
      rw [← A.out] at nx
      clear HC NX SL Z0 A
      generalize B (2 * k) = q at *
      cases q
      · have fin : Hid (2 * n = S (k + 1)) := nx.symm
        clear nx
        go_wp2
        go_roundg (4 - (k + 1))
        case measure => omega
        case rel => exact ⟨k + 1, 2 * n, by omega, by omega, by go_num, by go_num, fin.out, rfl⟩
      · have fin : Hid (2 * n + 1 = S (k + 1)) := nx.symm
        clear nx
        go_wp2
        go_roundg (4 - (k + 1))
        case measure => omega
        case rel => exact ⟨k + 1, 2 * n + 1, by omega, by omega, by go_num, by go_num, fin.out, rfl⟩
    · obtain rfl : k = 4 := by omega
      have a2 : Hid (n = S 4) := A.out
      clear HC NX SL Z0 A
      go_wp2
      go_ret
      exact ⟨ret_int (by rw [a2.out]), rfl⟩
end Go.Proofs.Ytibedfdgkknoiaa
