/-
  For any parts and any symbols: state.Write tells the number that they make: StateWrites returns true for every list of parts and every list of symbols, and changes nothing.
-/
import Derived.Test.YtchnlbanhkigjaaOpen
import Derived.Test.YtchnlbanhkigjaaRf
import Derived.Test.YtchnlbanhkigjaaWr
namespace Go.Proofs.Ytchnlbanhkigjaa
open Go.ChangeShapes Go.WideShapes Go.ChangeAt Go.RowKit Go.Deep
set_option linter.unusedVariables false

theorem pxe_zero (z : List Int) : pxe z 0 = per z := by
  unfold pxe
  by_cases h : per z = 0
  · rw [if_pos h, if_pos ⟨by decide, by decide⟩, h]
  · rw [if_neg h]

theorem stateWrites_parts (a a2 : Option Addr) (n c m d : Nat) (F : Int) (w : World) (hm : m ≤ maxLen) (hF : F ≠ 0)
    (c1 : Calls Try.prog 14 #[.slice a n c, .slice a2 m d] w fun e w' => e = .returned (.tuple #[.int .i64 0, .int .i64 F]) ∧ Qt w w')
    (c2 : Hid (∀ W, Ext w W → Calls Try.prog 10 #[.slice a n c, .int .i64 0] W fun e w' => e = .returned (.int .i64 F) ∧ w' = W)) :
    Calls Try.prog 5 #[.slice a n c, .slice a2 m d] w fun e w' => e = .returned (.bool true) ∧ Ext w w' := by
  unfold maxLen at hm
  have hE : (F == 0) = false := by rw [beq_eq_false_iff_ne]; exact hF
  have hE2 : (F != 0) = true := by rw [bne_iff_ne]; exact hF
  clear hF
  go_enter Try.func5, Try.ntmps5
  go_wp2_with fail
  refine c1.mono ?_
  rintro e w1 ⟨rfl, hq⟩
  have E1 : Hid (Ext w w1) := hq.ext
  clear c1 hq
  go_wp2_with fail
  refine (c2.out w1 E1.out).mono ?_
  rintro e w2 ⟨rfl, rfl⟩
  clear c2
  go_wp2
  go_loopg [7, 8, 9] 0 (fun gg s7 s8 s9 wr => ∃ i : Int, i = (m : Int) - 1 ∧ s7 = .int .i64 F ∧ s8 = .int .i64 0 ∧ s9 = .int .i64 i ∧ wr = w2)
  case atStart => exact ⟨_, rfl, rfl, rfl, by go_num, rfl⟩
  case round =>
    obtain ⟨i, hi, rfl, rfl, rfl, rfl⟩ := hrel
    by_cases h0 : 0 ≤ i
    · clear hi
      go_wp2
      go_ret
      exact ⟨ret_bool (by simp), E1.out⟩
    · clear hi
      go_wp2
      go_ret
      exact ⟨ret_bool (by simp), E1.out⟩

theorem stateWrites_large (a a2 : Option Addr) (n c m d : Nat) (w : World) (hm : m ≤ maxLen) (h64 : 64 < m)
    (c1 : Calls Try.prog 14 #[.slice a n c, .slice a2 m d] w fun e w' => e = .returned (.tuple #[.int .i64 0, .int .i64 1]) ∧ Qt w w')
    (c2 : Hid (∀ W, Ext w W → Calls Try.prog 10 #[.slice a n c, .int .i64 0] W fun e w' => e = .returned (.int .i64 0) ∧ w' = W)) :
    Calls Try.prog 5 #[.slice a n c, .slice a2 m d] w fun e w' => e = .returned (.bool true) ∧ Ext w w' := by
  unfold maxLen at hm
  go_enter Try.func5, Try.ntmps5
  go_wp2_with fail
  refine c1.mono ?_
  rintro e w1 ⟨rfl, hq⟩
  have E1 : Hid (Ext w w1) := hq.ext
  clear c1 hq
  go_wp2_with fail
  refine (c2.out w1 E1.out).mono ?_
  rintro e w2 ⟨rfl, rfl⟩
  clear c2
  go_wp2
  go_loopg [7, 8, 9] 0 (fun gg s7 s8 s9 wr => ∃ i : Int, i = (m : Int) - 1 ∧ s7 = .int .i64 1 ∧ s8 = .int .i64 0 ∧ s9 = .int .i64 i ∧ wr = w2)
  case atStart => exact ⟨_, rfl, rfl, rfl, by go_num, rfl⟩
  case round =>
    obtain ⟨i, hi, rfl, rfl, rfl, rfl⟩ := hrel
    by_cases h0 : 0 ≤ i
    · clear hi
      go_wp2
      go_ret
      exact ⟨ret_bool (by simp), E1.out⟩
    · clear hi
      go_wp2
      go_ret
      exact ⟨ret_bool (by simp), E1.out⟩

theorem pu_few {p : List Nat} {x s : Nat} (h16 : p.sum ≤ 16) (hx : x ≤ 1099511627776) (hk : 0 < pt p s) : pu p x s ≤ 17592186044480 := by
  have f1 := fs_le p s
  have f2 : x / pt p s ≤ x := Nat.div_le_self _ _
  have f3 : x % pt p s < pt p s := Nat.mod_lt _ hk
  have f4 : x / pt p s * p.sum ≤ x * 16 := Nat.mul_le_mul f2 h16
  unfold pu
  omega

/-- What the law has at each symbol: the number so far, or the error. -/
def WS (p : List Nat) (l : List Int) (k x : Nat) (F : Int) : Prop := (F = 0 ∧ x ≤ 1099511627776 ∧ wt p (l.drop k) = (x, 0)) ∨ (F ≠ 0 ∧ wt p l = (0, F))

theorem stateWrites_good (b o n c : Nat) (p : List Nat) (a : Option Addr) (b2 o2 m d : Nat) (l : List Int) (w : World) (hn : p.length = n) (h8 : n ≤ 8) (hcm : n ≤ c) (h1 : 1 ≤ p.sum) (h16 : p.sum ≤ 16) (h : Pa w b o p)
    (hm : l.length = m) (h64 : m ≤ 64) (ha : 0 < m → a = some ⟨b2, o2, none⟩) (hl : At w b2 o2 l)
    (c1 : Calls Try.prog 14 #[.slice (some ⟨b, o, none⟩) n c, .slice a m d] w fun e w' => e = .returned (.tuple #[.int .i64 ((wt p l).1 : Nat), .int .i64 (wt p l).2]) ∧ Qt w w')
    (c2 : Hid (∀ W, Ext w W → Calls Try.prog 10 #[.slice (some ⟨b, o, none⟩) n c, .int .i64 0] W fun e w' => e = .returned (.int .i64 0) ∧ w' = W)) :
    Calls Try.prog 5 #[.slice (some ⟨b, o, none⟩) n c, .slice a m d] w fun e w' => e = .returned (.bool true) ∧ Ext w w' := by
  have PUT : Hid (∀ (x s : Nat) W, x ≤ 1099511627776 → s < n → 0 < pt p s → Ext w W → Calls Try.prog 11 #[.slice (some ⟨b, o, none⟩) n c, .int .i64 x, .int .i64 s] W fun e w' => e = .returned (.int .i64 (pu p x s : Nat)) ∧ Ext W w') := fun x s W hx hs hk q => rput_any b o n c p x s W hn h8 h1 h16 hx hs hk (h.ext q)
  have FEW : Hid (∀ x s : Nat, x ≤ 1099511627776 → 0 < pt p s → pu p x s ≤ 17592186044480) := fun x s hx hk => pu_few h16 hx hk
  have HA : Hid (∀ i, i < m → w.cell? ⟨b2, o2 + i, none⟩ = some (.int .i64 (l.getD i 0))) := fun i hi => hl i (by omega)
  have HP : Hid (∀ i, i < n → w.cell? ⟨b, o + i, none⟩ = some (.int .i64 (pt p i : Nat))) := fun i hi => h i (by omega)
  have HH : Hid (0 < m → a = some ⟨b2, o2, none⟩) := ha
  -- the next symbol: an error, or the next number
  have BAD : Hid (∀ k x F, k < m → wt p (l.drop (k + 1)) = (x, 0) → pe p x (l.getD k 0) = F → F ≠ 0 → ∀ y, WS p l k y F) := fun k x F hk hw hF h0 y => by
    have e := wt_step p l k (by omega) (by rw [hw])
    rw [hw] at e
    have e' : wt p (l.drop k) = (pv p x (l.getD k 0), F) := by
      rw [e]
      show (pv p x (l.getD k 0), pe p x (l.getD k 0)) = _
      rw [hF]
    right
    refine ⟨h0, ?_⟩
    rcases wt_bad p l k (by omega) (by rw [e']; exact h0) with h' | rfl
    · rw [h', e']
    · rw [List.drop_zero] at e'
      have z := wt_zero p l (by rw [e']; exact h0)
      rw [e'] at z ⊢
      rw [show pv p x (l.getD 0 0) = 0 from z]
  have OK : Hid (∀ (k x s : Nat), k < m → wt p (l.drop (k + 1)) = (x, 0) → l.getD k 0 = s → 0 < pt p s → pu p x s ≤ 1099511627776 → WS p l k (pu p x s) 0) := fun k x s hk hw hs hpt hle => by
    have e := wt_step p l k (by omega) (by rw [hw])
    rw [hw, hs] at e
    have hpe : pe p x s = 0 := by rw [pe_nat hpt, if_pos hle]
    have hpv : pv p x s = pu p x s := by
      unfold pv
      rw [if_pos hpe, Int.toNat_natCast]
    left
    refine ⟨rfl, hle, ?_⟩
    rw [e]
    simp [hpe, hpv]
  have ARG : Hid (∀ (x : Nat) (s : Int), s < 0 ∨ (n : Int) ≤ s → pe p x s = 2) := fun x s hs => pe_arg (by omega)
  have NONE : Hid (∀ x s : Nat, pt p s = 0 → pe p x s = 2) := fun x s hs => pe_arg (by rw [Int.toNat_natCast]; omega)
  have LARGE : Hid (∀ x s : Nat, 0 < pt p s → 1099511627776 < pu p x s → pe p x s = 1) := fun x s hs hl => by rw [pe_nat hs, if_neg (by omega)]
  have END : Hid (∀ x F, WS p l 0 x F → F = 0 → (wt p l).1 = x ∧ (wt p l).2 = 0) := fun x F hw hF => by
    rcases hw with ⟨_, _, hw⟩ | ⟨h', _⟩
    · rw [List.drop_zero] at hw
      rw [hw]; exact ⟨rfl, rfl⟩
    · exact absurd hF h'
  have END2 : Hid (∀ k x F, WS p l k x F → F ≠ 0 → (wt p l).1 = 0 ∧ (wt p l).2 = F) := fun k x F hw hF => by
    rcases hw with ⟨h', _⟩ | ⟨_, hw⟩
    · exact absurd h' hF
    · rw [hw]; exact ⟨rfl, rfl⟩
  have BEG : Hid (WS p l m 0 0) := Or.inl ⟨rfl, by omega, by rw [List.drop_of_length_le (by omega)]; rfl⟩
  have few := wt_few p l
  clear h hl ha hn hm h1 h16
  generalize (wt p l).1 = V at *
  generalize (wt p l).2 = G at *
  go_enter Try.func5, Try.ntmps5
  go_wp2_with fail
  refine c1.mono ?_
  rintro e w1 ⟨rfl, hq⟩
  have E1 : Hid (Ext w w1) := hq.ext
  clear c1 hq
  go_wp2_with fail
  refine (c2.out w1 E1.out).mono ?_
  rintro e w2 ⟨rfl, rfl⟩
  clear c2
  go_wp2
  go_loopg [7, 8, 9] m (fun gg s7 s8 s9 wr => ∃ (k x : Nat) (F i : Int), k ≤ m ∧ k ≤ gg ∧ i = (k : Int) - 1 ∧ x ≤ 17592186044480 ∧ s7 = .int .i64 F ∧ s8 = .int .i64 x ∧ s9 = .int .i64 i ∧ Aside (Ext w wr) ∧ Aside (WS p l k x F))
  case atStart => exact ⟨m, 0, 0, _, Nat.le_refl _, Nat.le_refl _, rfl, by omega, rfl, rfl, by go_num, E1.out, BEG.out⟩
  case round =>
    obtain ⟨k, x, F, i, hk, hg, hi, hx, rfl, rfl, rfl, Q, A⟩ := hrel
    clear BEG E1
    by_cases hF : F = 0
    · subst hF
      cases k with
      | zero =>
        have hneg : ¬ 0 ≤ i := by omega
        obtain ⟨v1, v2⟩ := END.out x 0 A.out rfl
        clear END END2 BAD OK ARG NONE LARGE PUT FEW HA HP HH A hi
        subst v1 v2
        go_wp2
        go_ret
        exact ⟨ret_bool (by simp), Q.out⟩
      | succ k =>
        obtain rfl : i = (k : Int) := by omega
        clear hi
        have hk' : k < m := by omega
        have hw : Hid (wt p (l.drop (k + 1)) = (x, 0)) := by
          rcases A.out with ⟨_, _, h'⟩ | ⟨h', _⟩
          · exact h'
          · exact absurd rfl h'
        have hx2 : x ≤ 1099511627776 := by
          rcases A.out with ⟨_, h', _⟩ | ⟨h', _⟩
          · exact h'
          · exact absurd rfl h'
        obtain rfl := HH.out (by omega)
        have e1 := Q.out.cell (HA.out k hk')
        have bad : Hid (∀ F, pe p x (l.getD k 0) = F → F ≠ 0 → ∀ y, WS p l k y F) := fun F hF h0 y => BAD.out k x F hk' hw.out hF h0 y
        have ok : Hid (∀ s : Nat, l.getD k 0 = s → 0 < pt p s → pu p x s ≤ 1099511627776 → WS p l k (pu p x s) 0) := fun s h1 h2 h3 => OK.out k x s hk' hw.out h1 h2 h3
        clear END END2 BAD OK HA HH A hw
        obtain ⟨s, hs⟩ : ∃ s, l.getD k 0 = s := ⟨_, rfl⟩
        rw [hs] at e1 bad ok
        clear hs
        by_cases s0 : s < 0
        · have nx : Hid (WS p l k x 2) := bad.out 2 (ARG.out x s (Or.inl s0)) (by decide) x
          clear bad ok ARG NONE LARGE PUT FEW HP
          go_wp2
          go_roundg k
          case measure => omega
          case rel => exact ⟨k, x, 2, _, by omega, Nat.le_refl _, rfl, hx, rfl, rfl, by go_num, Q.out, nx.out⟩
        · by_cases s1 : (n : Int) ≤ s
          · have nx : Hid (WS p l k x 2) := bad.out 2 (ARG.out x s (Or.inr s1)) (by decide) x
            clear bad ok ARG NONE LARGE PUT FEW HP
            go_wp2
            go_roundg k
            case measure => omega
            case rel => exact ⟨k, x, 2, _, by omega, Nat.le_refl _, rfl, hx, rfl, rfl, by go_num, Q.out, nx.out⟩
          · obtain ⟨s, rfl⟩ : ∃ t : Nat, s = t := ⟨s.toNat, by omega⟩
            have hsn : s < n := by omega
            have e2 := Q.out.cell (HP.out s hsn)
            rcases Nat.eq_zero_or_pos (pt p s) with hz | hz
            · have nx : Hid (WS p l k x 2) := bad.out 2 (NONE.out x s hz) (by decide) x
              rw [hz] at e2
              clear bad ok ARG NONE LARGE PUT FEW HP hz
              go_wp2
              go_roundg k
              case measure => omega
              case rel => exact ⟨k, x, 2, _, by omega, Nat.le_refl _, rfl, hx, rfl, rfl, by go_num, Q.out, nx.out⟩
            · have c3 := PUT.out x s wr hx2 hsn hz Q.out
              have few2 := FEW.out x s hx2 hz
              have z0 : ((pt p s : Int) == 0) = false := by rw [beq_eq_false_iff_ne]; omega
              have ok2 : Hid (pu p x s ≤ 1099511627776 → WS p l k (pu p x s) 0) := fun h => ok.out s rfl hz h
              have lg2 : Hid (1099511627776 < pu p x s → ∀ y, WS p l k y 1) := fun h => bad.out 1 (LARGE.out x s hz h) (by decide)
              clear bad ok ARG NONE LARGE PUT FEW HP
              generalize pu p x s = y at *
              generalize pt p s = q at *
              by_cases hy : y ≤ 1099511627776
              · have nx : Hid (WS p l k y 0) := ok2.out hy
                clear ok2 lg2
                go_wp2_with fail
                refine c3.mono ?_
                rintro e w3 ⟨rfl, hq⟩
                have E3 : Hid (Ext w w3) := Q.out.trans hq
                clear c3 hq Q
                go_wp2
                go_roundg k
                case measure => omega
                case rel => exact ⟨k, y, 0, _, by omega, Nat.le_refl _, rfl, few2, rfl, rfl, by go_num, E3.out, nx.out⟩
              · have nx : Hid (WS p l k y 1) := lg2.out (by omega) y
                clear ok2 lg2
                go_wp2_with fail
                refine c3.mono ?_
                rintro e w3 ⟨rfl, hq⟩
                have E3 : Hid (Ext w w3) := Q.out.trans hq
                clear c3 hq Q
                go_wp2
                go_roundg k
                case measure => omega
                case rel => exact ⟨k, y, 1, _, by omega, Nat.le_refl _, rfl, few2, rfl, rfl, by go_num, E3.out, nx.out⟩
    · obtain ⟨v1, v2⟩ := END2.out k x F A.out hF
      have hE : (F == 0) = false := by rw [beq_eq_false_iff_ne]; exact hF
      have hE2 : (F != 0) = true := by rw [bne_iff_ne]; exact hF
      clear END END2 BAD OK ARG NONE LARGE PUT FEW HA HP HH A hF
      subst v1 v2
      by_cases h0 : 0 ≤ i
      · clear hi
        go_wp2
        go_ret
        exact ⟨ret_bool (by simp), Q.out⟩
      · clear hi
        go_wp2
        go_ret
        exact ⟨ret_bool (by simp), Q.out⟩

theorem stateWrites_walk (p l : Nm) (w : World) (hp : Nums w p) (hl : Nums w l) : Calls Try.prog 5 #[p.v, l.v] w fun e w' => e = .returned (.bool true) ∧ Ext w w' := by
  have c1 := swrite_any p l w hp hl
  have c2 : Hid (∀ W, Ext w W → Calls Try.prog 10 #[p.v, .int .i64 0] W fun e w' => e = .returned (.int .i64 (per p.z)) ∧ w' = W) := fun W e => by
    have := parts_any p 0 W (hp.ext e)
    rw [pxe_zero] at this
    exact this
  obtain ⟨l1, l2, l0, b2, o2, l3, l4⟩ := hl
  by_cases h : per p.z = 0
  · rw [h] at c2
    by_cases h64 : l.z.length ≤ 64
    · obtain ⟨b, o, g⟩ := good_parts hp h
      have e1 : wre p.z l.z = (wt (nt p.z) l.z).2 := by unfold wre; rw [if_pos h, if_pos h64]
      have e2 : wrv p.z l.z = (wt (nt p.z) l.z).1 := by
        unfold wrv
        rw [e1]
        by_cases h0 : (wt (nt p.z) l.z).2 = 0
        · rw [if_pos h0]
        · rw [if_neg h0, wt_zero _ _ h0]
      rw [e1, e2, g.v] at c1
      rw [g.v] at c2 ⊢
      exact stateWrites_good b o _ p.c (nt p.z) l.a b2 o2 l.z.length l.c l.z w rfl g.few g.cap g.one g.most g.pa rfl h64 l3 l4 c1 c2
    · have e1 : wre p.z l.z = 1 := by unfold wre; rw [if_pos h, if_neg h64]
      have e2 : wrv p.z l.z = 0 := if_neg (by rw [e1]; decide)
      rw [e1, e2] at c1
      exact stateWrites_large p.a l.a p.z.length p.c l.z.length l.c w (by omega) (by omega) c1 c2
  · have e1 : wre p.z l.z = per p.z := if_neg h
    have e2 : wrv p.z l.z = 0 := if_neg (by rw [e1]; exact h)
    rw [e1, e2] at c1
    exact stateWrites_parts p.a l.a p.z.length p.c l.z.length l.c _ w (by omega) h c1 c2

set_option maxRecDepth 100000 in
theorem stateWrites_lifted (os : Os) (started : os.Started) (H : Type) (enc : TypeId × Value → H) :
    ReturnsInHanded {} Try.checked os 5 .any (Rows.stateWritesSpec.pre6 enc Try.prog Try.f5 Rows.stateWritesRow.domain false) (Rows.stateWritesSpec.post enc Try.prog Try.f5 false true false false) := by
  refine returnsInHanded_of_change (C := Try.checked) own started (by kernel_rfl) Try.func5
    (ChangeSpec.witness6 (enc := enc) (C := Try.checked) false ⟨#[], #[.slice none 0 0, .slice none 0 0], []⟩ 8 (by kernel_rfl) (by kernel_rfl) (by kernel_rfl) (by kernel_rfl)) ?_
  intro W base args ds gs before hval0 hW _ _
  have hval : ∀ (j : Nat) t v, Try.f5.params[j]? = some t → args[j]? = some v → Value.okWide Try.prog W .any base t v := hval0
  have hW' := hW
  obtain ⟨p, q, hA0, hV, rfl, hfz, hnd⟩ := hW
  have hA : DataW.TrodAll enc Try.prog W 0 (fun _ => true) true Try.f5.params.toList args.toList ds p := hA0
  rw [Try.params5] at hA hval
  obtain ⟨v0, vs0, d0, ds0, p0, q0, hargs, rfl, rfl, h0, r0⟩ := trodAll_cons hA
  obtain ⟨v1, vs1, d1, ds1, p1, q1, rfl, rfl, rfl, h1, r1⟩ := trodAll_cons r0
  obtain ⟨rfl, rfl, rfl⟩ := trodAll_nil r1
  obtain rfl : args = #[v0, v1] := by cases args; simp_all
  obtain ⟨rfl, rfl⟩ := trodVars_none hV
  have lt0 : ∀ x ∈ p0, x.block < W.heap.size := by obtain ⟨m, hm⟩ := h0; exact DataW.trod_lt m _ _ _ hm
  obtain ⟨x0, rfl, w0⟩ := open_syms (hval 0 22 v0 rfl rfl) h0
  have lt1 : ∀ x ∈ p1, x.block < W.heap.size := by obtain ⟨m, hm⟩ := h1; exact DataW.trod_lt m _ _ _ hm
  obtain ⟨x1, rfl, w1⟩ := open_syms (hval 1 22 v1 rfl rfl) h1
  clear hA0 hval0
  refine (stateWrites_walk x0 x1 W w0 w1).mono fun e W' ⟨he, bel⟩ => ?_
  subst he
  exact ⟨_, rfl, _, _, _, [], _, [], hW', trodAll_mk1 (shut_bool Try.underlying4 _), (trodAll_cons_mk (Below.trod laidOut (by kernel_rfl) (of_decide_eq_true (by kernel_rfl)) h0 bel lt0) (trodAll_cons_mk (Below.trod laidOut (by kernel_rfl) (of_decide_eq_true (by kernel_rfl)) h1 bel lt1) trodAll_mk0)), rfl, bel.frame _, fun h => by cases h⟩

theorem stateWrites_holds : Rows.StateWritesSaid :=
  OpenClaim.holds_of_wide 5 Try.f5 rfl rfl rfl rfl rfl rfl rfl ⟨rfl, rfl, rfl, rfl, rfl⟩ rfl rfl rfl rfl rfl (by kernel_rfl) Try.func5 (by kernel_rfl)
    (of_decide_eq_true (by kernel_rfl)) (by unfold Func.isWrapper; rw [if_neg (of_decide_eq_false (by kernel_rfl))]; exact ⟨rfl, rfl⟩)
    (fun os started H enc _ => stateWrites_lifted os started H enc)

#print axioms stateWrites_holds

end Go.Proofs.Ytchnlbanhkigjaa
