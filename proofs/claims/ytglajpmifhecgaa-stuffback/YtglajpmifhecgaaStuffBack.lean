/-
  For any bits: what was put in is taken out, no six set ones stand in a row, and what can be taken out is put in again: StuffBack returns true for every list of bits, and changes nothing.
-/
import Derived.Test.YtglajpmifhecgaaOpen
import Derived.Test.YtglajpmifhecgaaHl
import Derived.ProofKit
namespace Go.Proofs.Ytglajpmifhecgaa
open Go.ChangeShapes Go.WideShapes Go.ChangeAt Go.RowKit Go.Deep
set_option linter.unusedVariables false

theorem stuffBack_large (x : Wd) (h : 64 < x.l.length) (w : World) (hx : Bits w x) : Calls Try.prog 7 #[x.v] w fun e w' => e = .returned (.bool true) ∧ Ext w w' := by
  have hm := hx.2.1
  have hm1 := hx.1
  have c1 := Stuff_large x h (by omega) w
  have c2 := Bare_large x h (by omega) w
  have hz : (x.l.length : Int) > 64 := by omega
  clear hx
  simp only [Wd.v] at *
  generalize x.l.length = n at *
  unfold maxLen at hm
  go_enter Try.func7, Try.ntmps7
  go_wp2_with fail
  refine c1.mono ?_
  rintro e w1 ⟨rfl, rfl⟩
  clear c1
  go_wp2_with fail
  refine c2.mono ?_
  rintro e w2 ⟨rfl, rfl⟩
  clear c2
  go_wp2
  go_ret
  exact ⟨rfl, Ext.refl _⟩

/-- What stands from the k-th bit on has no more than five set ones in a row. -/
def fewAt (m : List Bool) (k r : Nat) : Prop := r ≤ 5 ∧ few r (m.drop k)
theorem fewAt_next {m : List Bool} {k r : Nat} (h : fewAt m k r) (hk : k < m.length) : fewAt m (k + 1) (lr r (m.getD k false)) := by
  have h2 := h.2
  rw [drop_at hk] at h2
  exact ⟨h2.1, h2.2⟩

set_option maxHeartbeats 2000000 in
theorem stuffBack_none (x : Wd) (hl : x.l.length ≤ 64) (hb : br 0 x.l = none) (w : World) (hx : Bits w x) : Calls Try.prog 7 #[x.v] w fun e w' => e = .returned (.bool true) ∧ Ext w w' := by
  have hm := hx.2.1
  have hm1 := hx.1
  have XB : Hid (Bits w x) := hx
  have c1 := Stuff_good x hl w hx
  have c2 : Hid (∀ W, Ext w W → Calls Try.prog 12 #[x.v] W fun e w' => e = .returned (.tuple #[.slice none 0 0, .int .i64 3]) ∧ Ext W w') := fun W E => Bare_none x hl hb W (hx.ext E)
  have BS : Hid (br 0 (sf 0 x.l) = some x.l) := br_sf 0 x.l
  have hz : ¬ (x.l.length : Int) > 64 := by omega
  have hlen := sf_len x.l 0
  clear hx hb
  obtain ⟨xa, xc, l⟩ := x
  simp only [Wd.v] at *
  obtain ⟨n, hn⟩ : ∃ n, l.length = n := ⟨_, rfl⟩
  have LN : Hid (l.length = n) := hn
  rw [hn] at c1 c2 hz hm1 hl hlen ⊢
  clear hn
  unfold maxLen at hm
  obtain ⟨R, hR⟩ : ∃ R : Nat → Nat → Prop, ∀ k r, R k r ↔ fewAt (sf 0 l) k r := ⟨_, fun _ _ => Iff.rfl⟩
  obtain ⟨B, hB⟩ : ∃ B : Nat → Bool, ∀ k, B k = (sf 0 l).getD k false := ⟨_, fun _ => rfl⟩
  have R0 : Hid (R 0 0) := by show R 0 0; rw [hR]; exact ⟨by omega, few_sf l 0 (by omega)⟩
  have RN : Hid (∀ k r, R k r → k < (sf 0 l).length → R (k + 1) (lr r (B k))) := fun k r h hk => by rw [hR] at h ⊢; rw [hB]; exact fewAt_next h hk
  have R5 : Hid (∀ k r, R k r → r ≤ 5) := fun k r h => ((hR k r).1 h).1
  have HB : Hid (∀ k, (sf 0 l).getD k false = B k) := fun k => (hB k).symm
  clear hR hB
  generalize sf 0 l = M at *
  obtain ⟨q, hq⟩ : ∃ q, M.length = q := ⟨_, rfl⟩
  have LM : Hid (M.length = q) := hq
  rw [hq] at RN hlen
  clear hq
  go_enter Try.func7, Try.ntmps7
  go_wp2_with fail
  refine c1.mono ?_
  rintro e w1 ⟨v, rfl, O⟩
  obtain ⟨⟨ya, yc, yl⟩, rfl, hy, hb, E⟩ := O.word
  simp only at hy
  subst hy
  have E1 : Hid (Ext w w1) := E
  have YB : Hid (Bits w1 ⟨ya, yc, yl⟩) := hb
  simp only [Wd.v, LM.out]
  clear c1 hb E O
  go_wp2_with fail
  refine (c2.out w1 E1.out).mono ?_
  rintro e w2 ⟨rfl, E⟩
  have E2 : Hid (Ext w w2) := E1.out.trans E
  have YB2 : Hid (Bits w2 ⟨ya, yc, yl⟩) := YB.out.ext E
  clear c2 E E1 YB
  obtain ⟨_, ym2, _, b, o, hya, hcell⟩ := YB2.out
  simp only [LM.out] at hya hcell ym2
  have HC : Hid (∀ i, i < q → w2.cell? ⟨b, o + i, none⟩ = some (.bool (B i))) := fun i hi => by rw [hcell i hi, HB.out]
  unfold maxLen at ym2
  clear hcell HB
  go_wp2
  go_loopg [7, 9, 36] q (fun gg s7 _ s36 wr => wr = w2 ∧ ∃ (k r : Nat), k ≤ q ∧ q - k ≤ gg ∧ s7 = .int .i64 r ∧ s36 = .int .i64 k ∧ Hid (R k r))
  case atStart => exact ⟨rfl, 0, 0, by omega, by omega, rfl, rfl, R0.out⟩
  case round =>
    obtain ⟨rfl, k, r, hk, hgg, rfl, rfl, HR⟩ := hrel
    have h5 := R5.out k r HR.out
    by_cases hlt : k < q
    · have hltz : (k : Int) < (q : Int) := by omega
      obtain rfl := hya (by omega)
      have e1 := HC.out k hlt
      have nx := RN.out k r HR.out hlt
      have n5 := R5.out _ _ nx
      clear HC RN R5 R0 HR BS XB
      generalize B k = p at *
      cases p
      · have NX : Hid (R (k + 1) 0) := nx
        clear nx
        go_wp2
        go_roundg (q - (k + 1))
        case measure => omega
        case rel => exact ⟨rfl, k + 1, 0, by omega, by omega, rfl, by go_num, NX.out⟩
      · have NX : Hid (R (k + 1) (r + 1)) := nx
        have hr5 : ¬ ((r : Int) + 1 > 5) := by have : r + 1 ≤ 5 := n5; omega
        clear nx n5
        go_wp2
        go_roundg (q - (k + 1))
        case measure => omega
        case rel => exact ⟨rfl, k + 1, r + 1, by omega, by omega, by go_num, by go_num, NX.out⟩
    · obtain rfl : k = q := by omega
      clear HC RN R5 R0 HR hya
      by_cases h64 : k ≤ 64
      · have h64z : (k : Int) ≤ 64 := by omega
        have c3 := Bare_good ⟨ya, yc, yl⟩ (by show yl.length ≤ 64; rw [LM.out]; exact h64) l BS.out wr YB2.out
        simp only [Wd.v, LM.out] at c3
        go_wp2_with fail
        refine c3.mono ?_
        rintro e w3 ⟨v, rfl, O⟩
        obtain ⟨z, rfl, hzl, hzb, E⟩ := O.word
        have E3 : Hid (Ext w w3) := E2.out.trans E
        have c4 := same_any z ⟨xa, xc, l⟩ w3 hzb (XB.out.ext E3.out) hzl
        simp only [show (⟨xa, xc, l⟩ : Wd).v = .slice xa l.length xc from rfl, LN.out] at c4
        clear c3 hzl hzb E O E2
        go_wp2_with fail
        refine c4.mono ?_
        rintro e w4 ⟨rfl, E⟩
        have E4 : Hid (Ext w w4) := E3.out.trans E
        clear c4 E E3
        go_wp2
        go_ret
        exact ⟨rfl, E4.out⟩
      · have h64z : ¬ (k : Int) ≤ 64 := by omega
        have c3 := Bare_large ⟨ya, yc, yl⟩ (by show 64 < yl.length; rw [LM.out]; omega) (by show yl.length ≤ maxLen; rw [LM.out]; unfold maxLen; omega) wr
        simp only [Wd.v, LM.out] at c3
        have E4 : Hid (Ext w wr) := E2.out
        go_wp2_with fail
        refine c3.mono ?_
        rintro e w4 ⟨rfl, rfl⟩
        clear c3
        go_wp2
        go_ret
        exact ⟨rfl, E4.out⟩

set_option maxHeartbeats 2000000 in
theorem stuffBack_some (x : Wd) (hl : x.l.length ≤ 64) (T : List Bool) (hb : br 0 x.l = some T) (w : World) (hx : Bits w x) : Calls Try.prog 7 #[x.v] w fun e w' => e = .returned (.bool true) ∧ Ext w w' := by
  have hm := hx.2.1
  have hm1 := hx.1
  have XB : Hid (Bits w x) := hx
  have c1 := Stuff_good x hl w hx
  have sT : sf 0 T = x.l := (br_iff _ _ _).1 hb
  have lT : T.length ≤ 64 := by have h1 := sf_ge T 0; rw [sT] at h1; omega
  have ST : Hid (sf 0 T = x.l) := sT
  have c2 : Hid (∀ W, Ext w W → Calls Try.prog 12 #[x.v] W fun e w' => ∃ v, e = .returned (.tuple #[v, .int .i64 0]) ∧ OwnB W w' v T) := fun W E => Bare_good x hl T hb W (hx.ext E)
  clear sT
  have BS : Hid (br 0 (sf 0 x.l) = some x.l) := br_sf 0 x.l
  have hz : ¬ (x.l.length : Int) > 64 := by omega
  have hlen := sf_len x.l 0
  clear hx hb
  obtain ⟨xa, xc, l⟩ := x
  simp only [Wd.v] at *
  obtain ⟨n, hn⟩ : ∃ n, l.length = n := ⟨_, rfl⟩
  have LN : Hid (l.length = n) := hn
  rw [hn] at c1 c2 hz hm1 hl hlen ⊢
  clear hn
  unfold maxLen at hm
  obtain ⟨R, hR⟩ : ∃ R : Nat → Nat → Prop, ∀ k r, R k r ↔ fewAt (sf 0 l) k r := ⟨_, fun _ _ => Iff.rfl⟩
  obtain ⟨B, hB⟩ : ∃ B : Nat → Bool, ∀ k, B k = (sf 0 l).getD k false := ⟨_, fun _ => rfl⟩
  have R0 : Hid (R 0 0) := by show R 0 0; rw [hR]; exact ⟨by omega, few_sf l 0 (by omega)⟩
  have RN : Hid (∀ k r, R k r → k < (sf 0 l).length → R (k + 1) (lr r (B k))) := fun k r h hk => by rw [hR] at h ⊢; rw [hB]; exact fewAt_next h hk
  have R5 : Hid (∀ k r, R k r → r ≤ 5) := fun k r h => ((hR k r).1 h).1
  have HB : Hid (∀ k, (sf 0 l).getD k false = B k) := fun k => (hB k).symm
  clear hR hB
  generalize sf 0 l = M at *
  obtain ⟨q, hq⟩ : ∃ q, M.length = q := ⟨_, rfl⟩
  have LM : Hid (M.length = q) := hq
  rw [hq] at RN hlen
  clear hq
  go_enter Try.func7, Try.ntmps7
  go_wp2_with fail
  refine c1.mono ?_
  rintro e w1 ⟨v, rfl, O⟩
  obtain ⟨⟨ya, yc, yl⟩, rfl, hy, hb, E⟩ := O.word
  simp only at hy
  subst hy
  have E1 : Hid (Ext w w1) := E
  have YB : Hid (Bits w1 ⟨ya, yc, yl⟩) := hb
  simp only [Wd.v, LM.out]
  clear c1 hb E O
  go_wp2_with fail
  refine (c2.out w1 E1.out).mono ?_
  rintro e w2 ⟨v, rfl, O⟩
  obtain ⟨⟨da, dc, dl⟩, rfl, hd, hdb, E⟩ := O.word
  simp only at hd
  subst hd
  have E2 : Hid (Ext w w2) := E1.out.trans E
  have YB2 : Hid (Bits w2 ⟨ya, yc, yl⟩) := YB.out.ext E
  have DB : Hid (Bits w2 ⟨da, dc, dl⟩) := hdb
  simp only [Wd.v]
  have dm1 := hdb.1
  have dm2 := hdb.2.1
  simp only at dm1 dm2
  unfold maxLen at dm2
  clear c2 hdb E O E1 YB
  obtain ⟨_, ym2, _, b, o, hya, hcell⟩ := YB2.out
  simp only [LM.out] at hya hcell ym2
  have HC : Hid (∀ i, i < q → w2.cell? ⟨b, o + i, none⟩ = some (.bool (B i))) := fun i hi => by rw [hcell i hi, HB.out]
  unfold maxLen at ym2
  clear hcell HB
  go_wp2
  go_loopg [7, 9, 36] q (fun gg s7 _ s36 wr => wr = w2 ∧ ∃ (k r : Nat), k ≤ q ∧ q - k ≤ gg ∧ s7 = .int .i64 r ∧ s36 = .int .i64 k ∧ Hid (R k r))
  case atStart => exact ⟨rfl, 0, 0, by omega, by omega, rfl, rfl, R0.out⟩
  case round =>
    obtain ⟨rfl, k, r, hk, hgg, rfl, rfl, HR⟩ := hrel
    have h5 := R5.out k r HR.out
    by_cases hlt : k < q
    · have hltz : (k : Int) < (q : Int) := by omega
      obtain rfl := hya (by omega)
      have e1 := HC.out k hlt
      have nx := RN.out k r HR.out hlt
      have n5 := R5.out _ _ nx
      clear HC RN R5 R0 HR BS XB
      generalize B k = p at *
      cases p
      · have NX : Hid (R (k + 1) 0) := nx
        clear nx
        go_wp2
        go_roundg (q - (k + 1))
        case measure => omega
        case rel => exact ⟨rfl, k + 1, 0, by omega, by omega, rfl, by go_num, NX.out⟩
      · have NX : Hid (R (k + 1) (r + 1)) := nx
        have hr5 : ¬ ((r : Int) + 1 > 5) := by have : r + 1 ≤ 5 := n5; omega
        clear nx n5
        go_wp2
        go_roundg (q - (k + 1))
        case measure => omega
        case rel => exact ⟨rfl, k + 1, r + 1, by omega, by omega, by go_num, by go_num, NX.out⟩
    · obtain rfl : k = q := by omega
      clear HC RN R5 R0 HR hya
      by_cases h64 : k ≤ 64
      · have h64z : (k : Int) ≤ 64 := by omega
        have c3 := Bare_good ⟨ya, yc, yl⟩ (by show yl.length ≤ 64; rw [LM.out]; exact h64) l BS.out wr YB2.out
        simp only [Wd.v, LM.out] at c3
        go_wp2_with fail
        refine c3.mono ?_
        rintro e w3 ⟨v, rfl, O⟩
        obtain ⟨z, rfl, hzl, hzb, E⟩ := O.word
        have E3 : Hid (Ext w w3) := E2.out.trans E
        have c4 := same_any z ⟨xa, xc, l⟩ w3 hzb (XB.out.ext E3.out) hzl
        simp only [show (⟨xa, xc, l⟩ : Wd).v = .slice xa l.length xc from rfl, LN.out] at c4
        have DB3 : Hid (Bits w3 ⟨da, dc, dl⟩) := DB.out.ext E
        clear c3 hzl hzb E O E2
        go_wp2_with fail
        refine c4.mono ?_
        rintro e w4 ⟨rfl, E⟩
        have E4 : Hid (Ext w w4) := E3.out.trans E
        have DB4 : Hid (Bits w4 ⟨da, dc, dl⟩) := DB3.out.ext E
        clear c4 E E3
        have c5 := Stuff_good ⟨da, dc, dl⟩ lT w4 DB4.out
        simp only [Wd.v, ST.out] at c5
        go_wp2_with fail
        refine c5.mono ?_
        rintro e w5 ⟨v, rfl, O⟩
        obtain ⟨z, rfl, hzl, hzb, E⟩ := O.word
        have E5 : Hid (Ext w w5) := E4.out.trans E
        have c6 := same_any z ⟨xa, xc, l⟩ w5 hzb (XB.out.ext E5.out) hzl
        simp only [show (⟨xa, xc, l⟩ : Wd).v = .slice xa l.length xc from rfl, LN.out] at c6
        clear c5 hzl hzb E O E4
        go_wp2_with fail
        refine c6.mono ?_
        rintro e w6 ⟨rfl, E⟩
        have E6 : Hid (Ext w w6) := E5.out.trans E
        clear c6 E E5
        go_wp2
        go_ret
        exact ⟨rfl, E6.out⟩
      · have h64z : ¬ (k : Int) ≤ 64 := by omega
        have c3 := Bare_large ⟨ya, yc, yl⟩ (by show 64 < yl.length; rw [LM.out]; omega) (by show yl.length ≤ maxLen; rw [LM.out]; unfold maxLen; omega) wr
        simp only [Wd.v, LM.out] at c3
        have E4 : Hid (Ext w wr) := E2.out
        have DB4 : Hid (Bits wr ⟨da, dc, dl⟩) := DB.out
        go_wp2_with fail
        refine c3.mono ?_
        rintro e w4 ⟨rfl, rfl⟩
        clear c3
        have c5 := Stuff_good ⟨da, dc, dl⟩ lT w4 DB4.out
        simp only [Wd.v, ST.out] at c5
        go_wp2_with fail
        refine c5.mono ?_
        rintro e w5 ⟨v, rfl, O⟩
        obtain ⟨z, rfl, hzl, hzb, E⟩ := O.word
        have E5 : Hid (Ext w w5) := E4.out.trans E
        have c6 := same_any z ⟨xa, xc, l⟩ w5 hzb (XB.out.ext E5.out) hzl
        simp only [show (⟨xa, xc, l⟩ : Wd).v = .slice xa l.length xc from rfl, LN.out] at c6
        clear c5 hzl hzb E O E4
        go_wp2_with fail
        refine c6.mono ?_
        rintro e w6 ⟨rfl, E⟩
        have E6 : Hid (Ext w w6) := E5.out.trans E
        clear c6 E E5
        go_wp2
        go_ret
        exact ⟨rfl, E6.out⟩

theorem stuffBack_walk (x : Wd) (w : World) (hx : Bits w x) : Calls Try.prog 7 #[x.v] w fun e w' => e = .returned (.bool true) ∧ Ext w w' := by
  by_cases h : 64 < x.l.length
  · exact stuffBack_large x h w hx
  · cases hb : br 0 x.l with
    | none => exact stuffBack_none x (by omega) hb w hx
    | some T => exact stuffBack_some x (by omega) T hb w hx

set_option maxRecDepth 100000 in
theorem stuffBack_lifted (os : Os) (started : os.Started) (H : Type) (enc : TypeId × Value → H) :
    ReturnsInHanded {} Try.checked os 7 .any (Rows.stuffBackSpec.pre6 enc Try.prog Try.f7 Rows.stuffBackRow.domain false) (Rows.stuffBackSpec.post enc Try.prog Try.f7 false true false false) := by
  refine returnsInHanded_of_change (C := Try.checked) own started (by kernel_rfl) Try.func7
    (ChangeSpec.witness6 (enc := enc) (C := Try.checked) false ⟨#[], #[.slice none 0 0], []⟩ 8 (by kernel_rfl) (by kernel_rfl) (by kernel_rfl) (by kernel_rfl)) ?_
  intro W base args ds gs before hval0 hW _ _
  have hval : ∀ (j : Nat) t v, Try.f7.params[j]? = some t → args[j]? = some v → Value.okWide Try.prog W .any base t v := hval0
  have hW' := hW
  obtain ⟨p, q, hA0, hV, rfl, hfz, hnd⟩ := hW
  have hA : DataW.TrodAll enc Try.prog W 0 (fun _ => true) true Try.f7.params.toList args.toList ds p := hA0
  rw [Try.params7] at hA hval
  obtain ⟨v0, vs0, d0, ds0, p0, q0, hargs, rfl, rfl, h0, r0⟩ := trodAll_cons hA
  obtain ⟨rfl, rfl, rfl⟩ := trodAll_nil r0
  obtain rfl : args = #[v0] := by cases args; simp_all
  obtain ⟨rfl, rfl⟩ := trodVars_none hV
  have lt0 : ∀ x ∈ p0, x.block < W.heap.size := by obtain ⟨m, hm⟩ := h0; exact DataW.trod_lt m _ _ _ hm
  obtain ⟨x0, rfl, w0⟩ := open_word (hval 0 22 v0 rfl rfl) h0
  clear hA0 hval0
  refine (stuffBack_walk x0 W w0).mono fun e W' ⟨he, bel⟩ => ?_
  subst he
  exact ⟨_, rfl, _, _, _, [], _, [], hW', trodAll_mk1 (shut_bool Try.underlying4 _), (trodAll_cons_mk (Below.trod laidOut (by kernel_rfl) (of_decide_eq_true (by kernel_rfl)) h0 bel lt0) trodAll_mk0), rfl, bel.frame _, fun h => by cases h⟩

theorem stuffBack_holds : Rows.StuffBackSaid :=
  OpenClaim.holds_of_wide 7 Try.f7 rfl rfl rfl rfl rfl rfl rfl ⟨rfl, rfl, rfl, rfl, rfl⟩ rfl rfl rfl rfl rfl (by kernel_rfl) Try.func7 (by kernel_rfl)
    (of_decide_eq_true (by kernel_rfl)) (by unfold Func.isWrapper; rw [if_neg (of_decide_eq_false (by kernel_rfl))]; exact ⟨rfl, rfl⟩)
    (fun os started H enc _ => stuffBack_lifted os started H enc)

#print axioms stuffBack_holds

end Go.Proofs.Ytglajpmifhecgaa
