/-
  quipuref.Bose, quipuref.Boses.
-/
import Derived.Test.YtfngcoijbnhheaaBo
import Derived.Test.YtfngcoijbnhheaaRf
import Derived.Test.YtfngcoijbnhheaaDgt
import Derived.Test.YtfngcoijbnhheaaAz
import Derived.Test.YtfngcoijbnhheaaDf
namespace Go.Proofs.Ytfngcoijbnhheaa
open Go.RowKit
set_option linter.unusedVariables false

set_option maxHeartbeats 2000000 in
theorem refBose_any (x : Wd) (hl : x.l.length = 7) (w : World) (hx : Bits w x) : Calls Try.prog 9 #[x.v] w fun e w' => ∃ y : Wd, e = .returned y.v ∧ y.l = bo x.l ∧ Bits w' y ∧ Ext w w' := by
  obtain ⟨l, hll⟩ : ∃ l, x.l = l := ⟨_, rfl⟩
  obtain ⟨r, hr⟩ : ∃ r, rs 465 (l ++ List.replicate 8 false) = r := ⟨_, rfl⟩
  have hr16 : r < 65536 := by rw [← hr]; exact rs_small G465 _
  have c4 : Hid (∀ (y : Wd) (W : World), y.l = l ++ List.replicate 8 false → Bits W y → Calls Try.prog 15 #[.int .u32 465, y.v] W fun e w' => e = .returned (.int .u32 r) ∧ Ext W w') := fun y W hy hb => by
    have := refRest_any 465 G465 y (by rw [hy, List.length_append, List.length_replicate, ← hll]; omega) W hb
    rw [hy, hr] at this
    exact this
  have c5 : Hid (∀ W : World, Calls Try.prog 16 #[.int .i64 r, .int .i64 8] W fun e w' => ∃ B : Nat, e = .returned (.slice (some ⟨B, 0, none⟩) 8 8) ∧ Bits w' ⟨some ⟨B, 0, none⟩, 8, dg r 8⟩ ∧ Ext W w') := fun W => by
    refine (digits_any r 8 (by omega) (by omega) W).mono ?_
    rintro e w' ⟨⟨B, rfl, hR⟩, E⟩
    have := hR.bits (by rw [dg_length]; unfold maxLen; omega)
    rw [dg_length] at this
    exact ⟨B, rfl, this, E⟩
  have HP : Hid (l ++ dg r 8 = bo l) := by
    show _ = pt 465 l
    unfold pt
    rw [log465, hr]
  have HL : Hid (([] : List Bool).length + x.l.length ≤ 140737488355328) := by show _ ≤ _; rw [List.length_nil]; omega
  have HZ : Hid (l.length + 8 ≤ 1000) := by show _ ≤ _; rw [← hll]; omega
  have HD : Hid (l.length + (dg r 8).length ≤ 140737488355328) := by show _ ≤ _; rw [dg_length, ← hll]; omega
  have HDl : Hid ((dg r 8).length = 8) := dg_length _ _
  have HM : Hid (x.l = l) := hll
  have HX : Hid (Bits w x) := hx
  have hv : x.v = .slice x.a 7 x.c := by rw [Wd.v, hl]
  have HV : Hid (Value.slice x.a 7 x.c = x.v) := hv.symm
  rw [hv, hll]
  clear hv hx hr hll hl
  generalize bo l = R at *
  generalize dg r 8 = DD at *
  have HX1 : Hid (Bits (w.alloc (.cells #[] 4)) x) := HX.out.ext ((Ext.refl w).alloc _)
  have HO1 : Hid (OwnB w (w.alloc (.cells #[] 4)) (.slice (some ⟨w.heap.size, 0, none⟩) 0 0) []) := OwnB.empty w
  go_enter Try.func9, Try.ntmps9
  go_wp2_with (first | (at_builtin; refine wpList_appendZeros rfl _ _ rfl w _ va (by rfl) l Oa.out 8 (by omega) (by rfl) HZ.out ?_; clear Oa; intro vb wb Ob; obtain ⟨yb, hvb, hyb, hbb⟩ := Ob.bits; have Yb : Hid (yb.l = l ++ List.replicate 8 false ∧ Bits wb yb) := ⟨hyb, hbb⟩; have Eb : Hid (Ext w wb) := Ob.1; have HVb : Hid (vb = yb.v) := hvb; clear Ob hvb hyb hbb) | (at_builtin; refine wpList_appendBits rfl _ _ rfl w _ _ (by rfl) [] HO1.out x (by exact HV.out) HX1.out HL.out ?_; clear HX1 HO1; intro va wa Oa'; rw [List.nil_append, HM.out] at Oa'; have Oa : Hid (OwnB w wa va l) := Oa'; clear Oa'))
  have k4 := c4.out yb wb Yb.out.1 Yb.out.2
  rw [← HVb.out] at k4
  clear c4 Yb HVb
  refine k4.mono ?_
  rintro e w4 ⟨rfl, E4⟩
  have E4' : Hid (Ext w w4) := Eb.out.trans E4
  clear k4 E4 Eb
  have HX4 : Hid (Bits (w4.alloc (.cells #[] 4)) x) := HX.out.ext (E4'.out.trans ((Ext.refl w4).alloc _))
  have HO4 : Hid (OwnB w4 (w4.alloc (.cells #[] 4)) (.slice (some ⟨w4.heap.size, 0, none⟩) 0 0) []) := OwnB.empty w4
  go_wp2_with (at_builtin; refine wpList_appendBits rfl _ _ rfl w4 _ _ (by rfl) [] HO4.out x (by exact HV.out) HX4.out HL.out ?_; clear HX4 HO4; intro vc wc Oc'; rw [List.nil_append, HM.out] at Oc'; have Oc : Hid (OwnB w4 wc vc l) := Oc'; clear Oc')
  refine (c5.out wc).mono ?_
  rintro e w5 ⟨B, rfl, hB, E5⟩
  have HB5 : Hid (Bits w5 ⟨some ⟨B, 0, none⟩, 8, DD⟩) := hB
  have O5 : Hid (OwnB w4 w5 vc l) := Oc.out.ext E5
  have HV5 : Hid (Value.slice (some ⟨B, 0, none⟩) 8 8 = (⟨some ⟨B, 0, none⟩, 8, DD⟩ : Wd).v) := by show _ = _; rw [Wd.v, HDl.out]
  clear c5 hB E5 Oc
  go_wp2_with (at_builtin; refine wpList_appendBits rfl _ _ rfl w4 _ vc (by rfl) l O5.out ⟨some ⟨B, 0, none⟩, 8, DD⟩ (by exact HV5.out) HB5.out HD.out ?_; clear O5 HB5 HV5; intro vd wd Od; rw [HP.out] at Od; obtain ⟨yd, hvd, hyd, hbd⟩ := Od.bits; have Yd : Hid (yd.l = R ∧ Bits wd yd) := ⟨hyd, hbd⟩; have Ed : Hid (Ext w wd) := E4'.out.trans Od.1; have HVd : Hid (vd = yd.v) := hvd; clear Od hvd hyd hbd)
  go_ret
  exact ⟨yd, by rw [HVd.out]; rfl, Yd.out.1, Yd.out.2, Ed.out⟩

theorem dg_has7 : ∀ a b c d e f g : Bool, dg (64 * a.toNat + 32 * b.toNat + 16 * c.toNat + 8 * d.toNat + 4 * e.toNat + 2 * f.toNat + g.toNat) 7 = [a, b, c, d, e, f, g] ∧ 64 * a.toNat + 32 * b.toNat + 16 * c.toNat + 8 * d.toNat + 4 * e.toNat + 2 * f.toNat + g.toNat < 128 := by decide +kernel
theorem dg_has {d : List Bool} (h : d.length = 7) : ∃ x, x < 128 ∧ dg x 7 = d := by
  match d, h with
  | [a, b, c, d, e, f, g], _ => exact ⟨_, (dg_has7 a b c d e f g).2, (dg_has7 a b c d e f g).1⟩

/-- What Boses hands back where this is found. -/
def Bs (w : World) (o : Option (List Bool × Nat)) (e : Ending) (w' : World) : Prop := match o with
  | none => e = .returned (.tuple #[.slice none 0 0, .int .i64 (-1)]) ∧ Ext w w'
  | some (d, n) => ∃ y : Wd, e = .returned (.tuple #[y.v, .int .i64 n]) ∧ y.l = d ∧ Bits w' y ∧ Ext w w'

set_option maxRecDepth 8000 in
set_option maxHeartbeats 2000000 in
theorem refBoses_any (x : Wd) (hl : x.l.length = 15) (w : World) (hx : Bits w x) : Calls Try.prog 11 #[x.v] w (Bs w (fx x.l)) := by
  obtain ⟨O, hO⟩ : ∃ O, fx x.l = O := ⟨_, rfl⟩
  rw [hO]
  obtain ⟨D, hD⟩ : ∃ D : Nat → Nat, ∀ k, D k = df (bo (dg k 7)) x.l := ⟨_, fun _ => rfl⟩
  have HN : Hid (∀ k, D k ≤ 2 → O = some (dg k 7, D k)) := fun k h => by
    rw [hD] at h ⊢
    rw [← hO]
    exact fx_near hl (dg_length _ _) h
  have HE : Hid ((∀ k, k < 128 → ¬ D k ≤ 2) → O = none) := fun h => by
    cases ho : O with
    | none => rfl
    | some p =>
      obtain ⟨d, n⟩ := p
      rw [ho] at hO
      obtain ⟨h1, h2, h3⟩ := fx_ok hl hO
      obtain ⟨k, hk, rfl⟩ := dg_has h1
      exact absurd (by rw [hD, h2]; exact h3) (h k hk)
  have HS : Hid (∀ k, D k ≤ 15) := fun k => by
    rw [hD]
    unfold df
    rw [bo_len (dg_length _ _)]
    exact ct_le _ _
  have c1 : Hid (∀ k : Nat, k < 128 → ∀ W : World, Calls Try.prog 16 #[.int .i64 k, .int .i64 7] W fun e w' => ∃ B : Nat, e = .returned (.slice (some ⟨B, 0, none⟩) 7 7) ∧ Bits w' ⟨some ⟨B, 0, none⟩, 7, dg k 7⟩ ∧ Ext W w') := fun k hk W => by
    refine (digits_any k 7 (by omega) (by omega) W).mono ?_
    rintro e w' ⟨⟨B, rfl, hR⟩, E⟩
    have := hR.bits (by rw [dg_length]; unfold maxLen; omega)
    rw [dg_length] at this
    exact ⟨B, rfl, this, E⟩
  have c2 : Hid (∀ (k B : Nat) (W : World), Bits W ⟨some ⟨B, 0, none⟩, 7, dg k 7⟩ → Calls Try.prog 9 #[.slice (some ⟨B, 0, none⟩) 7 7] W fun e w' => ∃ y : Wd, e = .returned y.v ∧ y.l = bo (dg k 7) ∧ Bits w' y ∧ Ext W w') := fun k B W hb => by
    have := refBose_any _ (dg_length k 7) W hb
    simp only [Wd.v, dg_length] at this
    exact this
  have c3 : Hid (∀ (k : Nat) (y : Wd) (W : World), y.l = bo (dg k 7) → Bits W y → Ext w W → Calls Try.prog 13 #[y.v, .slice x.a 15 x.c] W fun e w' => e = .returned (.int .i64 (D k : Nat)) ∧ Ext W w') := fun k y W hy hb E => by
    have hyl : y.l.length = 15 := by rw [hy]; exact bo_len (dg_length _ _)
    have := differ_any y x (by rw [hl, hyl]) (by omega) W hb (hx.ext E)
    rw [show x.v = .slice x.a 15 x.c by rw [Wd.v, hl]] at this
    rw [hD, ← hy]
    exact this.mono (by rintro e w' ⟨rfl, q⟩; exact ⟨rfl, q.ext⟩)
  have HB : Hid (∀ (k B : Nat), ((⟨some ⟨B, 0, none⟩, 7, dg k 7⟩ : Wd).v) = .slice (some ⟨B, 0, none⟩) 7 7) := fun k B => by rw [Wd.v, dg_length]
  simp only [Wd.v]
  rw [hl]
  clear hO hD hx
  go_enter Try.func11, Try.ntmps11
  go_wp2
  obtain ⟨M, hM⟩ : ∃ M, M = 128 := ⟨_, rfl⟩
  have HM : Hid (M = 128) := hM
  clear hM
  go_loopg [4] M (fun gg s4 wr => ∃ k : Nat, k ≤ 128 ∧ M - k ≤ gg ∧ s4 = .int .i64 k ∧ Aside (∀ j, j < k → ¬ D j ≤ 2) ∧ Aside (Ext w wr))
  case atStart => exact ⟨0, by omega, by omega, rfl, fun j hj => by omega, Ext.refl w⟩
  case round =>
    obtain ⟨k, hk, hgg, rfl, N, E⟩ := hrel
    by_cases hlt : k < 128
    · have hltz : (k : Int) < 128 := by omega
      have k1 := c1.out k hlt wr
      have k2 := c2.out k
      have k3 := c3.out k
      have K2 : Hid (∀ (B : Nat) (W : World), Bits W ⟨some ⟨B, 0, none⟩, 7, dg k 7⟩ → Calls Try.prog 9 #[.slice (some ⟨B, 0, none⟩) 7 7] W fun e w' => ∃ y : Wd, e = .returned y.v ∧ y.l = bo (dg k 7) ∧ Bits w' y ∧ Ext W w') := k2
      have K3 : Hid (∀ (y : Wd) (W : World), y.l = bo (dg k 7) → Bits W y → Ext w W → Calls Try.prog 13 #[y.v, .slice x.a 15 x.c] W fun e w' => e = .returned (.int .i64 (D k : Nat)) ∧ Ext W w') := k3
      have hn := HN.out k
      have hs := HS.out k
      have HV := HB.out k
      have HV' : Hid (∀ (B : Nat), ((⟨some ⟨B, 0, none⟩, 7, dg k 7⟩ : Wd).v) = .slice (some ⟨B, 0, none⟩) 7 7) := HV
      have N' : Hid (∀ j, j < k → ¬ D j ≤ 2) := N.out
      have E' : Hid (Ext w wr) := E.out
      have HN' : Hid (D k ≤ 2 → O = some (dg k 7, D k)) := hn
      clear c1 c2 c3 k2 k3 HN HE HS HB HV N E hn
      go_wp2_with fail
      refine k1.mono ?_
      rintro e w1 ⟨B, rfl, hb, E1⟩
      have B1 : Hid (Bits w1 ⟨some ⟨B, 0, none⟩, 7, dg k 7⟩) := hb
      have E1' : Hid (Ext w w1) := E'.out.trans E1
      clear k1 hb E1 E'
      go_wp2_with fail
      refine (K2.out B w1 B1.out).mono ?_
      rintro e w2 ⟨y, rfl, hy, hb, E2⟩
      have Y : Hid (y.l = bo (dg k 7) ∧ Bits w2 y) := ⟨hy, hb⟩
      have B2 : Hid (Bits w2 ⟨some ⟨B, 0, none⟩, 7, dg k 7⟩) := B1.out.ext E2
      have E2' : Hid (Ext w w2) := E1'.out.trans E2
      clear K2 hy hb E2 E1' B1
      go_wp2_with fail
      refine (K3.out y w2 Y.out.1 Y.out.2 E2'.out).mono ?_
      rintro e w3 ⟨rfl, E3⟩
      have B3 : Hid (Bits w3 ⟨some ⟨B, 0, none⟩, 7, dg k 7⟩) := B2.out.ext E3
      have E3' : Hid (Ext w w3) := E2'.out.trans E3
      clear K3 E3 E2' B2 Y
      by_cases h2 : D k ≤ 2
      · have h2z : (D k : Int) ≤ 2 := by omega
        have HO : Hid (O = some (dg k 7, D k)) := HN'.out h2
        clear HN' N'
        go_wp2
        go_ret2
        rw [HO.out]
        exact ⟨⟨some ⟨B, 0, none⟩, 7, dg k 7⟩, by rw [HV'.out]; rfl, rfl, B3.out, E3'.out⟩
      · have h2z : ¬ (D k : Int) ≤ 2 := by omega
        have N2 : Hid (∀ j, j < k + 1 → ¬ D j ≤ 2) := fun j hj => by
          by_cases e : j = k
          · rw [e]; exact h2
          · exact N'.out j (by omega)
        clear HN' N' B3 HV'
        go_wp2
        go_roundg (M - (k + 1))
        case measure =>
          have := HM.out
          omega
        case rel => exact ⟨k + 1, by omega, by omega, by go_num, N2.out, E3'.out⟩
    · obtain rfl : k = 128 := by omega
      have hltz : ¬ (128 : Int) < 128 := by omega
      have HO : Hid (O = none) := HE.out N.out
      have E' : Hid (Ext w wr) := E.out
      clear c1 c2 c3 HN HE HS HB N E
      go_wp2
      go_ret2
      rw [HO.out]
      exact ⟨rfl, E'.out⟩

end Go.Proofs.Ytfngcoijbnhheaa
