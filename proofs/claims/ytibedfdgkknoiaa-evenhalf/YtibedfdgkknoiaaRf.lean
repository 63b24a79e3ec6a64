/-
  Bits appended to a list of one's own, and which rows stay; quipuref.Evened, EvenPut, EvenGet.
-/
import Derived.Test.YtibedfdgkknoiaaPu
import Derived.Test.YtibedfdgkknoiaaSl
import Derived.Test.YtibedfdgkknoiaaEq
namespace Go.Proofs.Ytibedfdgkknoiaa
open Go.RowKit
set_option linter.unusedVariables false

theorem ext_drew (w : World) : Ext w w.drew := below_drewN (Ext.refl w) 1
theorem append_block {t e : TypeId} {i0 : TypeInfo} {z : Value} {by8 : Nat} (ht : Try.prog.underlying t = some (.slice e)) (hi : Try.prog.info? e = some i0) (hz0 : i0.zero = some z) (hz1 : i0.size = 1) (hz2 : i0.bytes = by8) (hb : by8 ≤ 24)
    {w w' : World} {base : Nat} {v v' : Value} {n : Nat} {xs : List Value} {ty : TypeId} {ad : Addr} {m c : Nat} {ys : List Value} (hown : w.ownsRow base e 1 v n xs) (hl : ys.length = m) (hm : 0 < m)
    (hnews : ∀ j u, ys[j]? = some u → w.cell? (ad.add j) = some u) (hone : ∀ u ∈ ys, u.oneCell' = true) (h63 : n + m ≤ 1000000000) (hr : (Builtin.append_ #[t, t] ty #[v, .slice (some ad) m c]).run Try.prog w = .ok v' w') :
    v'.ownBlock = v.ownBlock ∨ ((∃ k, v'.ownBlock = some k ∧ w.heap.size ≤ k) ∧ Ext w w') := by
  have hbb : (n + m) * by8 ≤ 24000000000 := by
    have := Nat.mul_le_mul h63 hb
    omega
  have hbm : m * by8 ≤ 24000000000 := by
    have := Nat.mul_le_mul (show m ≤ 1000000000 by omega) hb
    omega
  rcases hown.2 with ⟨rfl, rfl⟩ | ⟨g, cap, cur, rfl, hbg, hg, hnc, hcm, hcs, htake⟩
  · have hr2 := run_append_nil (P := Try.prog) w t ty e i0 _ ht hi hz0 ad m c ys (by rw [hz1]; omega) hnews hm (by omega) (by rw [hz2]; omega)
    rw [hr2] at hr
    injection hr with e1 e2
    subst e1 e2
    exact .inr ⟨⟨_, rfl, Nat.le_refl _⟩, (ext_drew w).alloc _⟩
  · by_cases hroom : n + m ≤ cap
    · have hr2 := run_append_room (P := Try.prog) w t ty e i0 ht hi g n cap cur hg ad m c ys (by rw [hz1]; omega) hnews hone hroom (by rw [hz1, hl]; omega)
      rw [hr2] at hr
      injection hr with e1 e2
      subst e1
      exact .inl rfl
    · have holds : ∀ j u, xs[j]? = some u → w.cell? ((⟨g, 0, none⟩ : Addr).add j) = some u := hown.cells (g := g) rfl
      have hr2 := run_append_grow (P := Try.prog) w t ty e i0 _ ht hi hz0 ⟨g, 0, none⟩ n cap xs (by rw [hz1]; exact hown.1) holds ad m c ys (by rw [hz1]; omega) hnews (by omega) (by omega) (growslice_fits (by omega) (by rw [hz2]; omega))
      rw [hr2] at hr
      injection hr with e1 e2
      subst e1 e2
      exact .inr ⟨⟨_, rfl, Nat.le_refl _⟩, (ext_drew w).alloc _⟩

/-- Bits appended: every other block stays as it was, and the list lies in none of these. -/
theorem wpList_appendBitsB {ops : Array Oper} {rest : List Oper} {o : Oper} {a : Act} {Q : Exit → Act → World → Prop} (hgd : o.guard = none) (s x : Operand)
    (ho : o.op = .call { callee := .builtin .append, args := #[s, x], argTypes := #[22, 22] }) (w0 wr : World) (v : Value) (hs : a.eval s = v) (l : List Bool) (hown : OwnB w0 wr v l)
    (C c : Nat) (y : List Bool) (hy0 : 0 < y.length) (hx : a.eval x = .slice (some ⟨C, 0, none⟩) y.length c) (hy : ∀ i, i < y.length → wr.cell? ⟨C, i, none⟩ = some (.bool (y.getD i false))) (hb : l.length + y.length ≤ 1000000000)
    (h : ∀ v' w', OwnB w0 w' v' (l ++ y) → (∀ B t l, Row wr B t l → some B ≠ v.ownBlock → Row w' B t l ∧ some B ≠ v'.ownBlock) → wr.heap.size ≤ w'.heap.size → wpList Try.prog ops Q rest (a.put o.dst v') w') : wpList Try.prog ops Q (o :: rest) a wr := by
  obtain ⟨i0, hi, hz0, hz1, hz2⟩ := info_parts info4
  obtain ⟨he, hown⟩ := hown
  have hone : ∀ u ∈ y.map Value.bool, u.oneCell' = true := by
    intro u hu
    obtain ⟨q, _, rfl⟩ := List.mem_map.1 hu
    rfl
  have hnews : ∀ j u, (y.map Value.bool)[j]? = some u → wr.cell? ((⟨C, 0, none⟩ : Addr).add j) = some u := by
    intro j u hj
    have hj' : j < y.length := by
      rcases Nat.lt_or_ge j y.length with h' | h'
      · exact h'
      · rw [List.getElem?_eq_none (by simpa using h')] at hj; cases hj
    rw [Addr.add_lit, Nat.zero_add, hy j hj']
    simp [hj'] at hj
    simp [List.getD_eq_getElem?_getD, hj', hj]
  obtain ⟨v', w', hr, h2, h3, _⟩ := run_append_own (P := Try.prog) wr w0.heap.size 22 o.type 4 i0 (.bool false) 1 1 Try.underlying22 hi hz0 hz1 hz2 rfl (by decide) v l.length (l.map Value.bool) hown ⟨C, 0, none⟩ y.length c (y.map Value.bool) (by simp)
    hnews hone (by unfold maxLen; omega) (by omega) he.size
  have hbk := append_block Try.underlying22 hi hz0 hz1 hz2 (by omega) hown (ad := ⟨C, 0, none⟩) (m := y.length) (c := c) (ys := y.map Value.bool) (by simp) hy0 hnews hone (by omega) hr
  refine wpList_plain hgd fun _ hK => ?_
  unfold Oper.wp execOp
  simp only [ho, resolve, invoke, builtin, Sem.run_bind, Sem.run_pure, Result.andThen_ok, List.map_toArray, List.map_cons, List.map_nil, hs, hx, hr]
  refine hK _ _ (h v' w' ⟨Below.grown he h3 he.size (fun k hk => (hown.lt k hk).1), by simpa using h2⟩ (fun B t l hB hne => ?_) h3.size)
  refine ⟨?_, ?_⟩
  · show w'.heap[B]? = _
    rw [h3.block B hB.lt hne]
    exact hB
  · rcases hbk with hb | ⟨⟨k, hk, hk2⟩, _⟩
    · rw [hb]; exact hne
    · rw [hk]
      intro e
      injection e with e
      have := hB.lt
      omega


theorem own_lt {w0 w : World} {v : Value} {l : List Bool} (h : OwnB w0 w v l) : ∀ k, v.ownBlock = some k → k < w.heap.size := fun k hk => (h.2.lt k hk).2

set_option maxHeartbeats 1000000 in
theorem evened_any (x : Wd) (hl : x.l.length ≤ 1000) (he : x.l.length % 2 = 0) (w : World) (hx : Bits w x) : Calls Try.prog 10 #[x.v] w fun e w' => ∃ v, e = .returned (.tuple #[v, .int .i64 (lk x.l : Nat)]) ∧ OwnB w w' v (tt (lk x.l) x.l) := by
  obtain ⟨a1, a2, a3⟩ := lk_spec he
  obtain ⟨T, hT⟩ : ∃ T : Nat → List Bool, ∀ k, T k = tt k x.l := ⟨_, fun _ => rfl⟩
  have hT2 : ∀ k, (T k).length = x.l.length := fun k => by rw [hT, tt_len]
  have C1 : Hid (∀ (k : Nat) (W : World), k ≤ x.l.length → Ext w W → Calls Try.prog 21 #[x.v, .int .i64 k] W fun e w' => ∃ v, e = .returned v ∧ OwnB W w' v (T k)) := fun k W hk E => by rw [hT]; exact turnedTo_any x hl k hk W (hx.ext E)
  obtain ⟨S, hS⟩ : ∃ S : Nat → Nat, ∀ k, S k = on (T k) := ⟨_, fun _ => rfl⟩
  have C2 : Hid (∀ (k : Nat) (W : World) (y : Wd), y.l = T k → Bits W y → Calls Try.prog 20 #[y.v] W fun e w' => e = .returned (.int .i64 (S k)) ∧ w' = W) := fun k W y hy hb => by rw [hS, ← hy]; exact refOnes_any y (by rw [hy, hT2]; exact hl) W hb
  have SL : Hid (∀ k, S k ≤ x.l.length) := fun k => by rw [hS]; exact Nat.le_trans (on_le _) (Nat.le_of_eq (hT2 k))
  have SK : Hid (2 * S (lk x.l) = x.l.length) := by show _ = _; rw [hS, hT]; exact a2
  have SN : Hid (∀ k, k < lk x.l → 2 * S k ≠ x.l.length) := fun k hk => by rw [hS, hT]; exact a3 k hk
  have hm1 := hx.1
  have hm2 := hx.2.1
  unfold maxLen at hm2
  rw [← hT]
  clear a2 a3 hT hT2 hS hx he
  simp only [Wd.v] at *
  generalize lk x.l = K at *
  generalize x.l.length = n at *
  generalize x.a = xa at *
  generalize x.c = xc at *
  go_enter Try.func10, Try.ntmps10
  go_wp2
  go_loopg [4] K (fun gg s4 wr => ∃ k : Nat, k ≤ K ∧ K - k ≤ gg ∧ s4 = .int .i64 k ∧ Aside (Ext w wr))
  case atStart => exact ⟨0, Nat.zero_le _, by omega, rfl, Ext.refl _⟩
  case round =>
    obtain ⟨k, hk, hgg, rfl, E⟩ := hrel
    have E1 : Hid (Ext w wr) := E.out
    have c1 := C1.out k wr (by omega) E1.out
    have SLk := SL.out k
    clear E
    go_wp2_with fail
    refine c1.mono ?_
    rintro e w1 ⟨v, rfl, O⟩
    obtain ⟨y, rfl, hy, hb⟩ := O.bits
    have E2 : Hid (Ext w w1) := E1.out.trans O.1
    have c2 := C2.out k w1 y hy hb
    clear c1 O hy hb E1
    go_wp2_with fail
    refine c2.mono ?_
    rintro e w2 ⟨rfl, rfl⟩
    clear c2
    by_cases hlt : k < K
    · have hne : ((2 * (S k : Int)) == (n : Int)) = false := by
        rw [beq_eq_false_iff_ne]
        have := SN.out k hlt
        omega
      clear C1 C2 SL SK SN
      generalize S k = m at *
      go_wp2
      go_roundg (K - (k + 1))
      case measure => omega
      case rel => exact ⟨k + 1, by omega, by omega, by go_num, E2.out⟩
    · obtain rfl : k = K := by omega
      have hne : ((2 * (S k : Int)) == (n : Int)) = true := by
        rw [beq_iff_eq]
        have := SK.out
        omega
      have c3 := C1.out k w2 (by omega) E2.out
      clear C1 C2 SL SK SN
      generalize S k = m at *
      go_wp2_with fail
      refine c3.mono ?_
      rintro e w3 ⟨v, rfl, O⟩
      have O3 : Hid (OwnB w w3 v (T k)) := OwnB.base E2.out O
      clear c3 O E2
      go_wp2
      go_ret2
      exact ⟨v, rfl, O3.out⟩

set_option maxHeartbeats 1000000 in
theorem evenPut_any (x : Wd) (hl : x.l.length ≤ 15) (he : x.l.length % 2 = 0) (w : World) (hx : Bits w x) : Calls Try.prog 13 #[x.v] w fun e w' => ∃ v, e = .returned v ∧ OwnB w w' v (pt x.l) := by
  have c1 := evened_any x (by omega) he w hx
  have hk := (lk_spec he).1
  have c2 : Hid (∀ W : World, Calls Try.prog 23 #[.int .i64 (lk x.l : Nat), .int .i64 4] W fun e w' => (∃ B : Nat, e = .returned (.slice (some ⟨B, 0, none⟩) 4 4) ∧ Row w' B 4 (bv (d4 (lk x.l) 4)) ∧ W.heap.size ≤ B) ∧ Ext W w') := fun W => digits_any (lk x.l) 4 (by omega) (by decide) W
  obtain ⟨F, hF⟩ : ∃ F : Nat → List Bool, ∀ i, F i = tt (lk x.l) x.l ++ dd (d4 (lk x.l) i) := ⟨_, fun _ => rfl⟩
  obtain ⟨D, hD⟩ : ∃ D : Nat → Bool, ∀ i, D i = (lk x.l).testBit (3 - i) := ⟨_, fun _ => rfl⟩
  have F0 : Hid (tt (lk x.l) x.l = F 0) := by show _ = _; rw [hF]; exact (List.append_nil _).symm
  have F4 : Hid (pt x.l = F 4) := by show _ = _; rw [hF]; rfl
  have FN : Hid (∀ i, F (i + 1) = F i ++ [D i, !(D i)]) := fun i => by
    rw [hF, hF, d4_next, dd_app, List.append_assoc, hD]; rfl
  have FL : Hid (∀ i, i ≤ 4 → (F i).length ≤ 1000) := fun i hi => by
    rw [hF, List.length_append, tt_len, dd_len, d4_len]; omega
  have DC : Hid (∀ (W : World) (B i : Nat), Row W B 4 (bv (d4 (lk x.l) 4)) → i < 4 → W.cell? ⟨B, i, none⟩ = some (.bool (D i))) := fun W B i h hi => by
    have h1 : RB W B (d4 (lk x.l) 4) [] := by show Row _ _ _ _; rw [List.append_nil]; exact h
    rw [h1.cell i (by rw [d4_len]; exact hi), hD]
    congr 2
    simp [d4, List.getD_eq_getElem?_getD, hi]
  rw [F4.out]
  rw [F0.out] at c1
  clear hF hD hx F0 F4 he
  simp only [Wd.v] at *
  generalize bv (d4 (lk x.l) 4) = RD at *
  generalize lk x.l = K at *
  generalize x.l.length = n at *
  generalize x.a = xa at *
  generalize x.c = xc at *
  go_enter Try.func13, Try.ntmps13
  go_wp2_with fail
  refine c1.mono ?_
  rintro e w1 ⟨v, rfl, O⟩
  have O1 : Hid (OwnB w w1 v (F 0)) := O
  clear c1 O
  go_wp2_with fail
  refine (c2.out w1).mono ?_
  rintro e w2 ⟨⟨B, rfl, R, hB⟩, E⟩
  have O2 : Hid (OwnB w w2 v (F 0)) := O1.out.ext E
  have R2 : Hid (Row w2 B 4 RD ∧ some B ≠ v.ownBlock) := ⟨R, fun h => by have := own_lt O1.out B h.symm; omega⟩
  clear R hB E O1 c2
  go_wp2
  go_loopg [3, 6, 15] 4 (fun gg s3 _ s15 wr => ∃ (i : Nat) (sv : Value), i ≤ 4 ∧ 4 - i ≤ gg ∧ s15 = .int .i64 i ∧ sv = s3 ∧ Aside (OwnB w wr sv (F i)) ∧ Aside (Row wr B 4 RD ∧ some B ≠ sv.ownBlock))
  case atStart => exact ⟨0, _, by omega, by omega, rfl, rfl, O2.out, R2.out⟩
  case round =>
    obtain ⟨i, s3, hi, hgg, rfl, rfl, OO, RR⟩ := hrel
    have O3 : Hid (OwnB w wr s3 (F i)) := OO.out
    have R3 : Hid (Row wr B 4 RD ∧ some B ≠ s3.ownBlock) := RR.out
    clear OO RR O2 R2
    by_cases hlt : i < 4
    · have hltz : (i : Int) < 4 := by omega
      have e1 := DC.out wr B i R3.out.1 hlt
      have fl := FL.out i hi
      have fl : Hid ((F i).length + [D i, !(D i)].length ≤ 1000000000) := by show _ + 2 ≤ _; omega
      have fn : Hid (F (i + 1) = F i ++ [D i, !(D i)]) := FN.out i
      clear FL FN DC
      generalize D i = q at *
      have R4 : Hid (Row (wr.alloc (.cells #[.bool q, .bool !q] 4)) B 4 RD) := Row.ext R3.out.1 ((Ext.refl wr).alloc _)
      have O4 : Hid (OwnB w (wr.alloc (.cells #[.bool q, .bool !q] 4)) s3 (F i)) := O3.out.ext ((Ext.refl wr).alloc _)
      have cl : Hid (∀ j, j < [q, !q].length → (wr.alloc (.cells #[.bool q, .bool !q] 4)).cell? ⟨wr.heap.size, j, none⟩ = some (.bool ([q, !q].getD j false))) := fun j hj => by
        rcases j with _ | _ | j
        · exact two_cells wr q (!q) 0 _ rfl
        · exact two_cells wr q (!q) 1 _ rfl
        · have hj : j + 1 + 1 < 2 := hj
          omega
      go_wp2_with (at_builtin; refine wpList_appendBitsB rfl _ _ rfl w _ s3 (by rfl) (F i) O4.out wr.heap.size 2 [q, !q] (Nat.succ_pos _) (by rfl) cl.out fl.out ?_; intro v2 w3 O5 st _)
      have O6 : Hid (OwnB w w3 v2 (F (i + 1))) := by show OwnB _ _ _ _; rw [fn.out]; exact O5
      have R6 : Hid (Row w3 B 4 RD ∧ some B ≠ v2.ownBlock) := st B 4 RD R4.out R3.out.2
      clear O5 st O4 O3 R3 R4 cl
      go_wp2
      go_roundg (4 - (i + 1))
      case measure => omega
      case rel => exact ⟨i + 1, _, by omega, by omega, by go_num, rfl, O6.out, R6.out⟩
    · obtain rfl : i = 4 := by omega
      clear FL FN DC R3
      go_wp2
      go_ret
      exact ⟨_, rfl, O3.out⟩
end Go.Proofs.Ytibedfdgkknoiaa
