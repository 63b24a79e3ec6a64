/-
  For any data, fewer than half of whose distance are turned, they are told: MullerBack returns true for every two numbers, every list of bits and every list of places, and changes nothing.
-/
import Derived.Test.YtakojkekelhobaaOp8
import Derived.Test.YtakojkekelhobaaKp
namespace Go.Proofs.Ytakojkekelhobaa
open Go.ChangeShapes Go.WideShapes Go.ChangeAt Go.RowKit Go.Deep
set_option linter.unusedVariables false

/-- The bits once the first k places are turned. -/
def tu (L : List Bool) (p : Nat → Nat) : Nat → List Bool
  | 0 => L
  | k + 1 => (tu L p k).set (p k) (!(tu L p k).getD (p k) false)
theorem tu_len (L : List Bool) (p : Nat → Nat) : ∀ k, (tu L p k).length = L.length
  | 0 => rfl
  | k + 1 => by
    show ((tu L p k).set _ _).length = _
    rw [List.length_set, tu_len L p k]

/-- What is got of bits. -/
def gb (m r : Nat) (l : List Bool) : List Bool := bl (gd (2 ^ m) (pl m (r + 1)) r (fun i => l.getD i false) (r + 1)) (pl m (r + 1)).length
theorem gb_len (m r : Nat) (l : List Bool) : (gb m r l).length = (pl m (r + 1)).length := bl_len _ _
theorem gb_back {m r : Nat} (hm : m ≤ 4) (hr : r ≤ m) {a x : List Bool} (ha : a.length = (pl m (r + 1)).length) (h : 2 * df (pb m r a) x < 2 ^ (m - r)) : gb m r x = a := by
  unfold gb
  have hd : df (pb m r a) x = ct (fun i => (pb m r a).getD i false != x.getD i false) (2 ^ m) := by
    unfold df
    rw [pb_len]
  rw [hd] at h
  have k : ∀ i, i < (pl m (r + 1)).length → gd (2 ^ m) (pl m (r + 1)) r (fun i => x.getD i false) (r + 1) i = a.getD i false := fun i hi =>
    reed hm hr (D := fun i => a.getD i false) (e := fun i => (pb m r a).getD i false != x.getD i false) (fun q hq => by
      show x.getD q false = (cw (pl m (r + 1)) (fun i => a.getD i false) q != ((pb m r a).getD q false != x.getD q false))
      have : (pb m r a).getD q false = cw (pl m (r + 1)) (fun i => a.getD i false) q := by unfold pb; rw [bl_at _ hq]
      rw [this]
      cases cw (pl m (r + 1)) (fun i => a.getD i false) q <;> cases x.getD q false <;> rfl) h hi
  rw [bl_congr k, ← ha]
  exact bl_self a

theorem get_is {m r : Nat} (hm : m ≤ 4) (hr : r ≤ m) (g cap : Nat) (l : List Bool) (hl : l.length = 2 ^ m) (w : World) (hx : Bits w ⟨some ⟨g, 0, none⟩, cap, l⟩) :
    Calls Try.prog 14 #[.int .i64 r, .int .i64 m, .slice (some ⟨g, 0, none⟩) (2 ^ m : Nat) cap] w fun e w' => ∃ (a : Option Addr) (c : Nat), e = .returned (.tuple #[.slice a (pl m (r + 1)).length c, .int .i64 0]) ∧ Bits w' ⟨a, c, gb m r l⟩ ∧ Ext w w' := by
  have c := Get_good hm hr ⟨some ⟨g, 0, none⟩, cap, l⟩ hl w hx
  simp only [Wd.v, hl] at c
  refine c.mono ?_
  rintro e w' ⟨⟨a, c, q⟩, rfl, hd, hb, hE⟩
  simp only at hd
  subst hd
  exact ⟨a, c, by rw [bl_len], hb, hE⟩

theorem mullerBack_bad (r m : Int) (x : Wd) (y : Ym) (h : mce r m = 4) (hb : ¬ (0 ≤ m ∧ m ≤ 4 ∧ 0 ≤ r ∧ r ≤ m)) (w : World) : Calls Try.prog 7 #[.int .i64 r, .int .i64 m, x.v, y.v] w fun e w' => e = .returned (.bool true) ∧ Ext w w' := by
  have c1 := Put_bad r m x h w
  simp only [Wd.v, Ym.v] at *
  clear h
  by_cases h1 : m < 0
  · clear hb
    go_enter Try.func7, Try.ntmps7
    go_wp2_with fail
    refine c1.mono ?_
    rintro e w1 ⟨rfl, rfl⟩
    clear c1
    go_wp2
    go_ret
    exact ⟨rfl, Ext.refl _⟩
  by_cases h2 : 4 < m
  · clear hb
    go_enter Try.func7, Try.ntmps7
    go_wp2_with fail
    refine c1.mono ?_
    rintro e w1 ⟨rfl, rfl⟩
    clear c1
    go_wp2
    go_ret
    exact ⟨rfl, Ext.refl _⟩
  by_cases h3 : r < 0
  · clear hb
    go_enter Try.func7, Try.ntmps7
    go_wp2_with fail
    refine c1.mono ?_
    rintro e w1 ⟨rfl, rfl⟩
    clear c1
    go_wp2
    go_ret
    exact ⟨rfl, Ext.refl _⟩
  have h4 : m < r := by omega
  clear hb
  go_enter Try.func7, Try.ntmps7
  go_wp2_with fail
  refine c1.mono ?_
  rintro e w1 ⟨rfl, rfl⟩
  clear c1
  go_wp2
  go_ret
  exact ⟨rfl, Ext.refl _⟩

theorem mullerBack_form {r m : Nat} (hm : m ≤ 4) (hr : r ≤ m) (x : Wd) (y : Ym) (hl : x.l.length ≠ (pl m (r + 1)).length) (w : World) : Calls Try.prog 7 #[.int .i64 r, .int .i64 m, x.v, y.v] w fun e w' => e = .returned (.bool true) ∧ Ext w w' := by
  have c1 := Put_form hm hr x hl w
  have hrm : (r : Int) ≤ (m : Int) := by omega
  simp only [Wd.v, Ym.v] at *
  clear hl
  go_enter Try.func7, Try.ntmps7
  go_wp2_with fail
  refine c1.mono ?_
  rintro e w1 ⟨rfl, E1⟩
  have E1' : Hid (Ext w w1) := E1
  clear c1 E1
  go_wp2
  go_ret
  exact ⟨rfl, E1'.out⟩

theorem rem_at (k n : Nat) : (k : Int).tmod (n : Int) = ((k % n : Nat) : Int) := (Int.ofNat_tmod k n).symm

set_option maxHeartbeats 4000000 in
set_option maxRecDepth 100000 in
theorem mullerBack_good {r m : Nat} (hm : m ≤ 4) (hr : r ≤ m) (x : Wd) (y : Ym) (hl : x.l.length = (pl m (r + 1)).length) (w : World) (hx : Bits w x) (hy : Ys w y) (h8 : ∀ i, i < y.z.length → y.z.getD i 0 < 256) :
    Calls Try.prog 7 #[.int .i64 r, .int .i64 m, x.v, y.v] w fun e w' => e = .returned (.bool true) ∧ Ext w w' := by
  have pw := pow_four m hm
  have lim := pow_lim hm
  have c1 := put_is hm hr x hl w hx
  have ML := pb_len m r x.l
  obtain ⟨ya, yc, yz⟩ := y
  obtain ⟨h1, h2, _, yb, yo, h4, h5⟩ := hy
  simp only at h1 h2 h4 h5 h8
  simp only [Wd.v, Ym.v]
  rw [hl]
  obtain ⟨P, hP⟩ : ∃ P : Nat → Nat, ∀ i, P i = yz.getD i 0 := ⟨_, fun _ => rfl⟩
  have HY : Hid (∀ i, i < yz.length → w.cell? ⟨yb, yo + i, none⟩ = some (.int .u8 (P i : Nat))) := fun i hi => by rw [hP]; exact h5 i hi
  have HP : Hid (∀ i, i < yz.length → P i < 256) := fun i hi => by rw [hP]; exact h8 i hi
  obtain ⟨X, hX⟩ : ∃ X : Nat → List Bool, ∀ k, X k = tu (pb m r x.l) (fun i => P i % 2 ^ m) k := ⟨_, fun _ => rfl⟩
  have XL : Hid (∀ k, (X k).length = 2 ^ m) := fun k => by rw [hX, tu_len, ML]
  have X0 : Hid (X 0 = pb m r x.l) := hX 0
  have XN : Hid (∀ k, X (k + 1) = (X k).set (P k % 2 ^ m) (!(X k).getD (P k % 2 ^ m) false)) := fun k => by rw [hX, hX]; rfl
  have GET : Hid (∀ g cap rest k W, RB W g (X k) rest → 2 ^ m + rest.length = cap → cap ≤ maxLen → Calls Try.prog 14 #[.int .i64 r, .int .i64 m, .slice (some ⟨g, 0, none⟩) (2 ^ m : Nat) cap] W fun e w' => ∃ (a : Option Addr) (c : Nat), e = .returned (.tuple #[.slice a (pl m (r + 1)).length c, .int .i64 0]) ∧ Bits w' ⟨a, c, gb m r (X k)⟩ ∧ Ext W w') := fun g cap rest k W hR hc hmx =>
    get_is hm hr g cap (X k) (XL.out k) W (hR.bits (by rw [XL.out]; exact hc) hmx)
  have BACK : Hid (∀ k, ¬ 2 ^ (m - r) ≤ 2 * df (pb m r x.l) (X k) → gb m r (X k) = x.l) := fun k h => gb_back hm hr hl (by omega)
  have BQ : Hid (∀ a c k W, Ext w W → gb m r (X k) = x.l → Bits W ⟨a, c, gb m r (X k)⟩ → Calls Try.prog 12 #[.slice a (pl m (r + 1)).length c, .slice x.a (pl m (r + 1)).length x.c] W fun e w' => e = .returned (.bool true) ∧ Qt W w') := fun a c k W hE hg hb => by
    have := bools_is a c (gb m r (X k)) x.a x.c x.l _ _ (gb_len m r _) hl W hb (hx.ext hE)
    rw [hg, beq_self_eq_true] at this
    exact this
  have DQ : Hid (∀ a c g cap rest k W, Bits W ⟨a, c, pb m r x.l⟩ → RB W g (X k) rest → 2 ^ m + rest.length = cap → cap ≤ maxLen → Calls Try.prog 16 #[.slice a (2 ^ m : Nat) c, .slice (some ⟨g, 0, none⟩) (2 ^ m : Nat) cap] W fun e w' => e = .returned (.int .i64 (df (pb m r x.l) (X k) : Nat)) ∧ Qt W w') := fun a c g cap rest k W hb hR hc hmx =>
    differ_is a c (pb m r x.l) (some ⟨g, 0, none⟩) cap (X k) (2 ^ m) lim.2 ML (XL.out k) W hb (hR.bits (by rw [XL.out]; exact hc) hmx)
  have pwD := pow_four (m - r) (by omega)
  have DL : Hid (∀ k, df (pb m r x.l) (X k) ≤ 2 ^ m) := fun k => by show _ ≤ _; unfold df; rw [ML]; exact ct_le _ _
  have hmr : (m : Int) - (r : Int) = ((m - r : Nat) : Int) := by omega
  have D4 : m - r ≤ 4 := by omega
  have lim2 := pow_lim D4
  have hrm : (r : Int) ≤ (m : Int) := by omega
  have MLH : Hid ((pb m r x.l).length = 2 ^ m) := ML
  clear hx h5 h8 hl ML hP hX
  obtain ⟨DF, hDF⟩ : ∃ DF : Nat → Nat, ∀ k, DF k = df (pb m r x.l) (X k) := ⟨_, fun _ => rfl⟩
  have DQ' : Hid (∀ a c g cap rest k W, Bits W ⟨a, c, pb m r x.l⟩ → RB W g (X k) rest → 2 ^ m + rest.length = cap → cap ≤ maxLen → Calls Try.prog 16 #[.slice a (2 ^ m : Nat) c, .slice (some ⟨g, 0, none⟩) (2 ^ m : Nat) cap] W fun e w' => e = .returned (.int .i64 (DF k : Nat)) ∧ Qt W w') := fun a c g cap rest k W q1 q2 q3 q4 => by
    rw [hDF]; exact DQ.out a c g cap rest k W q1 q2 q3 q4
  have BACK' : Hid (∀ k, ¬ 2 ^ (m - r) ≤ 2 * DF k → gb m r (X k) = x.l) := fun k h => BACK.out k (by rw [← hDF]; exact h)
  have DL' : Hid (∀ k, DF k ≤ 2 ^ m) := fun k => by rw [hDF]; exact DL.out k
  clear DQ BACK DL hDF
  generalize (pl m (r + 1)).length = n at *
  generalize pb m r x.l = HA at *
  generalize x.a = xa at *
  generalize x.c = xc at *
  generalize x.l = xl at *
  generalize m - r = D at *
  generalize 2 ^ m = M at *
  generalize 2 ^ D = K at *
  clear x
  generalize yz.length = np at *
  unfold maxLen at h2
  go_enter Try.func7, Try.ntmps7
  go_wp2_with fail
  refine c1.mono ?_
  rintro e w1 ⟨a1, k1, rfl, b1, E1⟩
  have M0 : 0 < HA.length := by rw [MLH.out]; omega
  obtain ⟨pa, hpa⟩ := Bits.some b1 M0
  simp only [Wd.v] at hpa
  have hpa' : a1 = some pa := by injection hpa
  subst hpa'
  have b1' := b1
  have k11 := b1.1
  have k12 := b1.2.1
  simp only [MLH.out] at k11
  simp only at k12
  have HB1 : Hid (Bits w1 ⟨some pa, k1, HA⟩) := b1
  have E1' : Hid (Ext w w1) := E1
  have HO : Hid (OwnB w1 (w1.alloc (.cells #[] 4)) (.slice (some ⟨w1.heap.size, 0, none⟩) 0 0) []) := OwnB.empty w1
  have HXX : Hid (Bits (w1.alloc (.cells #[] 4)) ⟨some pa, k1, HA⟩) := HB1.out.ext ((Ext.refl w1).alloc _)
  have HBB : Hid (([] : List Bool).length + (Wd.mk (some pa) k1 HA).l.length ≤ 140737488355328) := by show 0 + HA.length ≤ _; rw [MLH.out]; omega
  have HV : Hid (Value.slice (some pa) M k1 = (Wd.mk (some pa) k1 HA).v) := by show _ = Value.slice (some pa) HA.length k1; rw [MLH.out]
  unfold maxLen at k12
  clear c1 b1 b1' E1 hpa M0
  go_wp2_with (at_builtin; refine wpList_appendBits rfl _ _ rfl w1 _ _ (by rfl) [] HO.out ⟨some pa, k1, HA⟩ (by exact HV.out) HXX.out HBB.out ?_; intro v' w2 B2; rw [List.nil_append] at B2; obtain ⟨g, cap, rest, rfl, hg, hcap, hmax, hR1, hrest⟩ := B2.row (by rw [MLH.out]; omega); rw [MLH.out] at hcap hrest ⊢; have HR1 : Hid (RB w2 g (X 0) rest) := (by show RB _ _ _ _; rw [X0.out]; exact hR1); have HE1 : Hid (Ext w1 w2) := B2.1; have MX : Hid (cap ≤ maxLen) := hmax; have RST : Hid (M + rest.length = cap) := hrest; unfold maxLen at hmax; clear B2 hR1 hrest)
  go_loopg [56] np (fun gg s56 wr => ∃ k : Nat, k ≤ np ∧ np - k ≤ gg ∧ s56 = .int .i64 k ∧ Aside (Ext w1 wr) ∧ Aside (RB wr g (X k) rest))
  case atStart => exact ⟨0, Nat.zero_le _, by omega, rfl, HE1.out, HR1.out⟩
  case round =>
    obtain ⟨k, hk, hgg, rfl, YE, YR⟩ := hrel
    clear HE1 HR1
    by_cases hlt : k < np
    · have hltz : (k : Int) < (np : Int) := by omega
      obtain rfl := h4 (by omega)
      have e1 := (E1'.out.trans YE.out).cell (HY.out k hlt)
      have p8 := HP.out k hlt
      have hik : P k % M < M := Nat.mod_lt _ (by omega)
      have rm := rem_at (P k) M
      have rm2 : ((P k : Nat) : Int) % (M : Int) = ((P k % M : Nat) : Int) := (Int.natCast_emod _ _).symm
      have uw : IntKind.i64.wrap ((P k : Nat) : Int) = ((P k : Nat) : Int) := IntWalk.i64_in _ (by omega)
      have e2 := YR.out.cell (P k % M) (by rw [XL.out]; exact hik)
      have f2 := Row.fr YR.out (P k % M)
      have nR : Hid (RB (wr.setCell ⟨g, P k % M, none⟩ (.bool (!(X k).getD (P k % M) false))) g (X (k + 1)) rest) := by
        show RB _ _ _ _
        rw [XN.out]
        exact YR.out.set (P k % M) (by rw [XL.out]; exact hik) _
      have nE : Hid (Ext w1 (wr.setCell ⟨g, P k % M, none⟩ (.bool (!(X k).getD (P k % M) false)))) := YE.out.setCell hg _
      have hM0 : ¬ M = 0 := by omega
      have hMi : ((M : Int) == 0) = false := beq_eq_false_iff_ne.2 (by omega)
      have hii : ((P k % M : Nat) : Int) < (M : Int) := by omega
      clear YE YR HY HP
      generalize (X k).getD (P k % M) false = b0 at *
      generalize P k % M = q at *
      generalize P k = p at *
      cases b0
      all_goals
        go_wp2
        go_region
        all_goals
          go_wp2
          go_roundg (np - (k + 1))
          case measure => omega
          case rel => exact ⟨k + 1, by omega, by omega, by go_num, nE.out.drewN 1, Row.ext nR.out ((Ext.refl _).drewN 1)⟩
    · obtain rfl : k = np := by omega
      have hltz : ¬ (k : Int) < (k : Int) := by omega
      have g1 := GET.out g cap rest k wr YR.out RST.out MX.out
      have YE' : Hid (Ext w1 wr) := YE.out
      have YR' : Hid (RB wr g (X k) rest) := YR.out
      have dl := DL'.out k
      clear YE YR HY HP GET
      go_wp2_with fail
      refine g1.mono ?_
      rintro e w3 ⟨a3, c3, rfl, b3, E3⟩
      have d1 := DQ'.out (some pa) k1 g cap rest k w3 (HB1.out.ext (YE'.out.trans E3)) (Row.ext YR'.out E3) RST.out MX.out
      have B3 : Hid (Bits w3 ⟨a3, c3, gb m r (X k)⟩) := b3
      have E3' : Hid (Ext w w3) := E1'.out.trans (YE'.out.trans E3)
      clear g1 b3 E3 YE' YR' DQ'
      have bk := BACK'.out k
      have BQ' : Hid (∀ W, Ext w W → gb m r (X k) = xl → Bits W ⟨a3, c3, gb m r (X k)⟩ → Calls Try.prog 12 #[.slice a3 n c3, .slice xa n xc] W fun e w' => e = .returned (.bool true) ∧ Qt W w') := fun W => BQ.out a3 c3 k W
      generalize DF k = q at *
      by_cases hq : K ≤ 2 * q
      · have hqi : (K : Int) ≤ 2 * (q : Int) := by omega
        clear hq bk BQ' BQ
        go_wp2_with fail
        refine d1.mono ?_
        rintro e w4 ⟨rfl, q4⟩
        have E4 : Hid (Ext w w4) := E3'.out.trans q4.ext
        clear d1 q4 E3'
        go_wp2
        go_ret
        exact ⟨rfl, E4.out⟩
      · have hqi : ¬ (K : Int) ≤ 2 * (q : Int) := by omega
        have HG : Hid (gb m r (X k) = xl) := bk hq
        clear hq bk BQ
        go_wp2_with fail
        refine d1.mono ?_
        rintro e w4 ⟨rfl, q4⟩
        have E4 : Hid (Ext w w4) := E3'.out.trans q4.ext
        have k5 := BQ'.out w4 E4.out HG.out (B3.out.ext q4.ext)
        clear d1 q4 E3' BQ' B3
        go_wp2_with fail
        refine k5.mono ?_
        rintro e w5 ⟨rfl, q5⟩
        have E5 : Hid (Ext w w5) := E4.out.trans q5.ext
        clear k5 q5 E4
        go_wp2
        go_ret
        exact ⟨rfl, E5.out⟩

theorem mullerBack_walk (r m : Int) (x : Wd) (y : Ym) (w : World) (hx : Bits w x) (hy : Ys w y) (h8 : ∀ i, i < y.z.length → y.z.getD i 0 < 256) : Calls Try.prog 7 #[.int .i64 r, .int .i64 m, x.v, y.v] w fun e w' => e = .returned (.bool true) ∧ Ext w w' := by
  by_cases h : 0 ≤ m ∧ m ≤ 4 ∧ 0 ≤ r ∧ r ≤ m
  · obtain ⟨M, rfl⟩ : ∃ M : Nat, m = M := ⟨m.toNat, by omega⟩
    obtain ⟨R, rfl⟩ : ∃ R : Nat, r = R := ⟨r.toNat, by omega⟩
    by_cases h1 : x.l.length = (pl M (R + 1)).length
    · exact mullerBack_good (by omega) (by omega) x y h1 w hx hy h8
    · exact mullerBack_form (by omega) (by omega) x y h1 w
  · exact mullerBack_bad r m x y (mce_bad h) h w

set_option maxRecDepth 100000 in
theorem mullerBack_lifted (os : Os) (started : os.Started) (H : Type) (enc : TypeId × Value → H) :
    ReturnsInHanded {} Try.checked os 7 .any (Rows.mullerBackSpec.pre6 enc Try.prog Try.f7 Rows.mullerBackRow.domain false) (Rows.mullerBackSpec.post enc Try.prog Try.f7 false true false false) := by
  refine returnsInHanded_of_change (C := Try.checked) own started (by kernel_rfl) Try.func7
    (ChangeSpec.witness6 (enc := enc) (C := Try.checked) false ⟨#[], #[.int .i64 0, .int .i64 0, .slice none 0 0, .slice none 0 0], []⟩ 8 (by kernel_rfl) (by kernel_rfl) (by kernel_rfl) (by kernel_rfl)) ?_
  intro W base args ds gs before hval0 hW _ _
  have hval : ∀ (j : Nat) t v, Try.f7.params[j]? = some t → args[j]? = some v → Value.okWide Try.prog W .any base t v := hval0
  have hW' := hW
  obtain ⟨p, q, hA0, hV, rfl, hfz, hnd⟩ := hW
  have hA : DataW.TrodAll enc Try.prog W 0 (fun _ => true) true Try.f7.params.toList args.toList ds p := hA0
  rw [Try.params7] at hA hval
  obtain ⟨v0, vs0, d0, ds0, p0, q0, hargs, rfl, rfl, h0, r0⟩ := trodAll_cons hA
  obtain ⟨v1, vs1, d1, ds1, p1, q1, rfl, rfl, rfl, h1, r1⟩ := trodAll_cons r0
  obtain ⟨v2, vs2, d2, ds2, p2, q2, rfl, rfl, rfl, h2, r2⟩ := trodAll_cons r1
  obtain ⟨v3, vs3, d3, ds3, p3, q3, rfl, rfl, rfl, h3, r3⟩ := trodAll_cons r2
  obtain ⟨rfl, rfl, rfl⟩ := trodAll_nil r3
  obtain rfl : args = #[v0, v1, v2, v3] := by cases args; simp_all
  obtain ⟨rfl, rfl⟩ := trodVars_none hV
  have lt0 : ∀ x ∈ p0, x.block < W.heap.size := by obtain ⟨m, hm⟩ := h0; exact DataW.trod_lt m _ _ _ hm
  obtain ⟨x0, rfl, -, -, wf0⟩ := open_int Try.underlying3 (hval 0 3 v0 rfl rfl) h0
  have lt1 : ∀ x ∈ p1, x.block < W.heap.size := by obtain ⟨m, hm⟩ := h1; exact DataW.trod_lt m _ _ _ hm
  obtain ⟨x1, rfl, -, -, wf1⟩ := open_int Try.underlying3 (hval 1 3 v1 rfl rfl) h1
  have lt2 : ∀ x ∈ p2, x.block < W.heap.size := by obtain ⟨m, hm⟩ := h2; exact DataW.trod_lt m _ _ _ hm
  obtain ⟨x2, rfl, w2⟩ := open_word (hval 2 29 v2 rfl rfl) h2
  have lt3 : ∀ x ∈ p3, x.block < W.heap.size := by obtain ⟨m, hm⟩ := h3; exact DataW.trod_lt m _ _ _ hm
  obtain ⟨x3, rfl, w3, b3⟩ := open_ys (hval 3 38 v3 rfl rfl) h3
  clear hA0 hval0
  refine (mullerBack_walk x0 x1 x2 x3 W w2 w3 b3).mono fun e W' ⟨he, bel⟩ => ?_
  subst he
  exact ⟨_, rfl, _, _, _, [], _, [], hW', trodAll_mk1 (shut_bool Try.underlying4 _), (trodAll_cons_mk (Below.trod laidOut (by kernel_rfl) (of_decide_eq_true (by kernel_rfl)) h0 bel lt0) (trodAll_cons_mk (Below.trod laidOut (by kernel_rfl) (of_decide_eq_true (by kernel_rfl)) h1 bel lt1) (trodAll_cons_mk (Below.trod laidOut (by kernel_rfl) (of_decide_eq_true (by kernel_rfl)) h2 bel lt2) (trodAll_cons_mk (Below.trod laidOut (by kernel_rfl) (of_decide_eq_true (by kernel_rfl)) h3 bel lt3) trodAll_mk0)))), rfl, bel.frame _, fun h => by cases h⟩

theorem mullerBack_holds : Rows.MullerBackSaid :=
  OpenClaim.holds_of_wide 7 Try.f7 rfl rfl rfl rfl rfl rfl rfl ⟨rfl, rfl, rfl, rfl, rfl⟩ rfl rfl rfl rfl rfl (by kernel_rfl) Try.func7 (by kernel_rfl)
    (of_decide_eq_true (by kernel_rfl)) (by unfold Func.isWrapper; rw [if_neg (of_decide_eq_false (by kernel_rfl))]; exact ⟨rfl, rfl⟩)
    (fun os started H enc _ => mullerBack_lifted os started H enc)

#print axioms mullerBack_holds

end Go.Proofs.Ytakojkekelhobaa
