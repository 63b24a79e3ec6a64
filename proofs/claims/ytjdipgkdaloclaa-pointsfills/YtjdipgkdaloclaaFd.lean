/-
  quipuref.Filled.
-/
import Derived.Test.YtjdipgkdaloclaaOf
import Derived.Test.YtjdipgkdaloclaaTr
namespace Go.Proofs.Ytjdipgkdaloclaa
open Go.RowKit

/-- The places that are not lost, the last one first, when k of n have been asked. -/
def rl (bs : List Bool) (n k : Nat) : List Nat := ((List.range k).map fun i => n - 1 - i).filter fun i => !bs.getD i false
theorem rl_next (bs : List Bool) (n k : Nat) : rl bs n (k + 1) = rl bs n k ++ (if bs.getD (n - 1 - k) false then [] else [n - 1 - k]) := by
  unfold rl
  rw [List.range_succ, List.map_append, List.filter_append]
  congr 1
  simp only [List.map_cons, List.map_nil]
  rw [List.filter_cons]
  cases bs.getD (n - 1 - k) false
  · rfl
  · rfl
theorem rl_all (bs : List Bool) (n : Nat) : rl bs n n = (lft bs n).reverse := by
  unfold rl lft
  rw [← List.filter_reverse]
  congr 1
  apply List.ext_getElem
  · simp
  · intro i h1 h2
    simp at h1
    simp
theorem rl_len (bs : List Bool) (n k : Nat) : (rl bs n k).length ≤ k := by
  unfold rl
  have := List.length_filter_le (fun i => !bs.getD i false) ((List.range k).map fun i => n - 1 - i)
  simpa using this

/-- The place that comes so many-th from the end. -/
abbrev qf (bs : List Bool) (n i : Nat) : Nat := (lft bs n).reverse.getD i 0
/-- .. from the start. -/
abbrev pf (bs : List Bool) (n i : Nat) : Nat := (lft bs n).getD i 0
/-- The number there. -/
abbrev lf (z : List Int) (p : Nat) : Nat := (z.getD p 0).toNat

/-- All numbers that are not lost are numbers of the field. -/
def okl (z : List Int) (bs : List Bool) : Prop := ∀ i, i < z.length → bs.getD i false = false → 0 ≤ z.getD i 0 ∧ z.getD i 0 ≤ 15

theorem plc_of {z : List Int} {bs : List Bool} {l : List Nat} {k : Nat} (hn : z.length ≤ 9) (ho : okl z bs) (hm : ∀ p ∈ l, p < z.length ∧ bs.getD p false = false) (hp : l.Pairwise (· ≠ ·)) (hk : k ≤ l.length) : Plc (lf z) (fun i => l.getD i 0) k := by
  refine ⟨fun i hi => ?_, fun i hi => ?_, fun i j hi hj e => pw_one hp (by omega) (by omega) e⟩
  · have := hm _ (getD_mem (l := l) (i := i) (by omega))
    omega
  · have h1 := hm _ (getD_mem (l := l) (i := i) (by omega))
    have := ho _ h1.1 h1.2
    show (z.getD _ 0).toNat < 16
    omega
theorem val_of {z : List Int} {bs : List Bool} {l : List Nat} {k : Nat} (ho : okl z bs) (hm : ∀ p ∈ l, p < z.length ∧ bs.getD p false = false) (hk : k ≤ l.length) (i : Nat) (hi : i < k) : z.getD (l.getD i 0) 0 = ((lf z (l.getD i 0) : Nat) : Int) := by
  have h1 := hm _ (getD_mem (l := l) (i := i) (by omega))
  have := ho _ h1.1 h1.2
  show z.getD _ 0 = (((z.getD _ 0).toNat : Nat) : Int)
  omega

/-- What is told of numbers that may be. -/
def fil (z : List Int) (bs : List Bool) (k : Nat) (D : Nat → Nat) : Int := if (lft bs z.length).length < k then 5 else if 0 < ofc z bs (nl D k) z.length then 8 else 0
/-- The numbers that are told then. -/
def fin (z : List Int) (bs : List Bool) (k : Nat) (D : Nat → Nat) : List Int := if fil z bs k D = 0 then zl (nl D k) else []

theorem nil_nums (w : World) : Nums w ⟨none, 0, []⟩ := ⟨Nat.le_refl _, by unfold maxLen; exact Nat.zero_le _, fun _ => rfl, 0, 0, fun h => absurd h (by simp), fun i h => absurd h (by simp)⟩
theorem Nums.first {w : World} {x : Nm} (h : Nums w x) {k : Nat} (hk : k ≤ x.z.length) : Nums w ⟨x.a, x.c, x.z.take k⟩ := by
  obtain ⟨h1, h2, h0, b, o, h3, h4⟩ := h
  have hl : (x.z.take k).length = k := by rw [List.length_take]; omega
  refine ⟨by show (x.z.take k).length ≤ x.c; rw [hl]; omega, h2, h0, b, o, fun h => h3 (by have h' : 0 < (x.z.take k).length := h; rw [hl] at h'; omega), fun i hi => ?_⟩
  have hi : i < (x.z.take k).length := hi
  rw [hl] at hi
  rw [h4 i (by omega)]
  simp [List.getD_eq_getElem?_getD, hi]

set_option maxRecDepth 100000 in
set_option maxHeartbeats 1000000 in
theorem Filled_any (k : Nat) (y : Nm) (x : Bd) (hk1 : 1 ≤ k) (hk2 : k ≤ y.z.length) (hn : y.z.length ≤ 9) (hl : x.l.length = y.z.length) (ho : okl y.z x.l) (w : World) (hy : Nums w y) (hx : Bls w x) :
    Calls Try.prog 13 #[.int .i64 k, y.v, x.v] w fun e w' => Ext w w' ∧ ∃ m : Nm, e = .returned (.tuple #[m.v, .int .i64 (fil y.z x.l k (nd (lf y.z) (qf x.l y.z.length) k))]) ∧ m.z = fin y.z x.l k (nd (lf y.z) (qf x.l y.z.length) k) ∧ Nums w' m := by
  have hmem : ∀ p ∈ (lft x.l y.z.length).reverse, p < y.z.length ∧ x.l.getD p false = false := fun p hp => lft_mem.1 (List.mem_reverse.1 hp)
  have hpw : (lft x.l y.z.length).reverse.Pairwise (· ≠ ·) := by
    rw [List.pairwise_reverse]
    exact (lft_pw _ _).imp (fun h => Ne.symm h)
  obtain ⟨D, hD⟩ : ∃ D, D = nd (lf y.z) (qf x.l y.z.length) k := ⟨_, rfl⟩
  -- the places, as they are put through
  have TH0 : Hid (k ≤ (lft x.l y.z.length).length → ∀ W v, OwnN w W v (zl (rl x.l y.z.length y.z.length)) → ∃ a c b o, v = .slice a (rl x.l y.z.length y.z.length).length c ∧ a = some ⟨b, o, none⟩ ∧ k ≤ c ∧ c ≤ maxLen ∧ Calls Try.prog 25 #[y.v, .slice a k c] W fun e w' => ∃ v, e = .returned v ∧ OwnN W w' v (zl (nl D k))) := fun hc W v O => by
    obtain ⟨q, rfl, hq, q1⟩ := O.nums
    have hql : q.z.length = (lft x.l y.z.length).length := by rw [hq, zl_len, rl_all, List.length_reverse]
    have q2 := q1
    obtain ⟨r1, r2, _, b, o, r3, _⟩ := q2
    refine ⟨q.a, q.c, b, o, by rw [Nm.v, hq, zl_len], r3 (by omega), by omega, r2, ?_⟩
    have e1 : q.z.take k = zl (nl (qf x.l y.z.length) k) := by
      rw [hq, rl_all, zl, ← List.map_take, take_nl _ _ (by rw [List.length_reverse]; exact hc)]
    have n1 := q1.first (k := k) (by omega)
    have := refThrough_any (lf y.z) (qf x.l y.z.length) k y ⟨q.a, q.c, q.z.take k⟩ ⟨plc_of hn ho hmem hpw (by rw [List.length_reverse]; exact hc), hk1, by omega, fun i hi => (hmem _ (getD_mem (by rw [List.length_reverse]; omega))).1, fun i hi => val_of ho hmem (by rw [List.length_reverse]; exact hc) i hi, e1⟩ W (hy.ext O.1) n1
    rw [hD]
    have e2 : (q.z.take k).length = k := by rw [List.length_take]; omega
    simp only [Nm.v, e2] at this ⊢
    exact this
  have OF : Hid (∀ W v, k ≤ (lft x.l y.z.length).length → Ext w W → OwnN W W v (zl (nl D k)) ∨ True → True) := fun _ _ _ _ _ => trivial
  have D16 : k ≤ (lft x.l y.z.length).length → ∀ c ∈ nl D k, c < 16 := fun hc => nl_lt (fun i _ => by
    rw [hD]
    exact nd_lt (plc_of hn ho hmem hpw (by rw [List.length_reverse]; exact hc)) i)
  have OC : Hid (k ≤ (lft x.l y.z.length).length → ∀ (W : World) (m : Nm), m.z = zl (nl D k) → Nums W m → Ext w W → Calls Try.prog 26 #[y.v, x.v, m.v] W fun e w' => e = .returned (.int .i64 (ofc y.z x.l (nl D k) y.z.length : Nat)) ∧ Ext W w') := fun hc W m hm hN E => off_any (nl D k) (D16 hc) y x m hm hn hl W (hy.ext E) (hx.ext E) hN
  rw [← hD]
  obtain ⟨k1, k2, _, xb, xo, k3, k4⟩ := hx
  rw [hl] at k1 k3 k4
  have BC0 : Hid (∀ i, i < y.z.length → w.cell? ⟨xb, xo + i, none⟩ = some (.bool (x.l.getD i false))) := k4
  have BA : Hid (0 < y.z.length → x.a = some ⟨xb, xo, none⟩) := k3
  have NX0 : Hid (∀ j, zl (rl x.l y.z.length (j + 1)) = zl (rl x.l y.z.length j) ++ (if x.l.getD (y.z.length - 1 - j) false then [] else [((y.z.length - 1 - j : Nat) : Int)])) := fun j => by
    rw [rl_next, zl, List.map_append]
    congr 1
    cases x.l.getD (y.z.length - 1 - j) false <;> simp
  have LN0 : Hid (∀ j, (zl (rl x.l y.z.length j)).length ≤ j) := fun j => by rw [zl_len]; exact rl_len _ _ _
  have LL0 : Hid ((zl (rl x.l y.z.length y.z.length)).length = (lft x.l y.z.length).length) := by rw [Hid, zl_len, rl_all, List.length_reverse]
  have LR : Hid ((rl x.l y.z.length y.z.length).length = (lft x.l y.z.length).length) := by rw [Hid, rl_all, List.length_reverse]
  have F5 : Hid ((lft x.l y.z.length).length < k → fil y.z x.l k D = 5 ∧ fin y.z x.l k D = []) := fun h => by
    have : fil y.z x.l k D = 5 := if_pos h
    exact ⟨this, by unfold fin; rw [this]; rfl⟩
  have F8 : Hid (k ≤ (lft x.l y.z.length).length → 0 < ofc y.z x.l (nl D k) y.z.length → fil y.z x.l k D = 8 ∧ fin y.z x.l k D = []) := fun h h2 => by
    have : fil y.z x.l k D = 8 := by unfold fil; rw [if_neg (by omega), if_pos h2]
    exact ⟨this, by unfold fin; rw [this]; rfl⟩
  have F0 : Hid (k ≤ (lft x.l y.z.length).length → ¬ 0 < ofc y.z x.l (nl D k) y.z.length → fil y.z x.l k D = 0 ∧ fin y.z x.l k D = zl (nl D k)) := fun h h2 => by
    have : fil y.z x.l k D = 0 := by unfold fil; rw [if_neg (by omega), if_neg h2]
    exact ⟨this, by unfold fin; rw [if_pos this]⟩
  clear hmem hpw hD D16 OF k3 k4 ho
  obtain ⟨G, hG⟩ : ∃ G : Nat → List Int, G = fun j => zl (rl x.l y.z.length j) := ⟨_, rfl⟩
  obtain ⟨B, hB⟩ : ∃ B : Nat → Bool, B = fun i => x.l.getD i false := ⟨_, rfl⟩
  have BC : Hid (∀ i, i < y.z.length → w.cell? ⟨xb, xo + i, none⟩ = some (.bool (B i))) := by rw [hB]; exact BC0.out
  have NX : Hid (∀ j, G (j + 1) = G j ++ (if B (y.z.length - 1 - j) then [] else [((y.z.length - 1 - j : Nat) : Int)])) := by rw [hG, hB]; exact NX0.out
  have LN : Hid (∀ j, (G j).length ≤ j) := by rw [hG]; exact LN0.out
  have LL : Hid ((G y.z.length).length = (lft x.l y.z.length).length) := by rw [hG]; exact LL0.out
  have G0 : Hid (G 0 = []) := by rw [hG]; rfl
  rw [LR.out] at TH0
  have TH : Hid (k ≤ (lft x.l y.z.length).length → ∀ W v, OwnN w W v (G y.z.length) → ∃ a c b o, v = .slice a (lft x.l y.z.length).length c ∧ a = some ⟨b, o, none⟩ ∧ k ≤ c ∧ c ≤ maxLen ∧ Calls Try.prog 25 #[y.v, .slice a k c] W fun e w' => ∃ v, e = .returned v ∧ OwnN W w' v (zl (nl D k))) := by rw [hG]; exact TH0.out
  clear hG hB LR BC0 NX0 LN0 LL0 TH0
  generalize fil y.z x.l k D = FL at *
  generalize fin y.z x.l k D = FN at *
  generalize (lft x.l y.z.length).length = M at *
  generalize ofc y.z x.l (nl D k) y.z.length = C at *
  generalize zl (nl D k) = DD at *
  simp only [Nm.v, Bd.v] at *
  rw [hl] at *
  clear hl
  generalize y.a = ya at *
  generalize y.c = yc at *
  generalize x.a = xa at *
  generalize x.c = xc at *
  generalize y.z.length = n at *
  go_enter Try.func13, Try.ntmps13
  go_wp2
  go_loopg [8, 9] n (fun gg s8 s9 wr => ∃ j : Nat, j ≤ n ∧ n - j ≤ gg ∧ s9 = .int .i64 ((n : Int) - 1 - j) ∧ Aside (OwnN w wr s8 (G j)))
  case atStart => exact ⟨0, by omega, by omega, by go_num, by rw [G0.out]; exact OwnN.nil (Ext.refl w)⟩
  case round =>
    obtain ⟨j, hj, hgg, rfl, O⟩ := hrel
    by_cases hlt : j < n
    · have nx := NX.out j
      have ln := LN.out j
      obtain ⟨i, hi⟩ : ∃ i, n - 1 - j = i := ⟨_, rfl⟩
      have hiz : (n : Int) - 1 - j = (i : Int) := by omega
      rw [hi] at nx
      rw [hiz]
      obtain rfl := BA.out (by omega)
      have hi2 : (i : Int) < (n : Int) := by omega
      have hi0 : (0 : Int) ≤ (i : Int) := by omega
      have hc := O.out.1.cell (BC.out i (by omega))
      have nxt : Hid ((i : Int) - 1 = (n : Int) - 1 - ((j + 1 : Nat) : Int)) := by rw [Hid]; omega
      clear hiz hi
      cases hq : B i
      · rw [hq] at hc nx
        rw [if_neg (by decide)] at nx
        have O2 : Hid (OwnN w wr u8 (G j)) := O.out
        obtain ⟨a, c, hv⟩ := O.out.form
        subst hv
        have NX2 : Hid (G (j + 1) = G j ++ [(i : Int)]) := nx
        have LZ : Hid ((G j).length + 1 ≤ 1000000) := by rw [Hid]; omega
        clear O nx hq
        generalize hzz : G j = z at *
        clear hzz ln LL
        obtain ⟨zn, hzn⟩ : ∃ zn, z.length = zn := ⟨_, rfl⟩
        rw [hzn] at O2 ⊢
        go_wp2_with (at_builtin; refine wpList_appendNum rfl _ _ rfl w _ (.slice a zn c) rfl z O2.out _ rfl (by have := LZ.out; omega) ?_; intro v2 w2 O3)
        have O4 : Hid (OwnN w w2 v2 (G (j + 1))) := by rw [NX2.out]; exact O3
        clear O3 O2
        go_wp2
        go_roundg (n - (j + 1))
        case measure => omega
        case rel => exact ⟨j + 1, by omega, by omega, by rw [← nxt.out], O4.out⟩
      · rw [hq] at hc nx
        rw [if_pos rfl, List.append_nil] at nx
        have O2 : Hid (OwnN w wr u8 (G (j + 1))) := by rw [Hid, nx]; exact O.out
        clear O nx hq ln
        go_wp2
        go_roundg (n - (j + 1))
        case measure => omega
        case rel => exact ⟨j + 1, by omega, by omega, by rw [← nxt.out], O2.out⟩
    · obtain rfl : j = n := by omega
      have hneg : ¬ (0 : Int) ≤ (j : Int) - 1 - j := by omega
      have EO : Hid (Ext w wr) := O.out.1
      have hLL := LL.out
      by_cases hM : M < k
      · obtain ⟨f1, f2⟩ := F5.out hM
        subst f1 f2
        obtain ⟨a, c, hv⟩ := O.out.form
        rw [hLL] at hv
        subst hv
        have hMz : (M : Int) < (k : Int) := by omega
        clear O TH OC F5 F8 F0 NX BC LL LN
        go_wp2
        go_ret2
        exact ⟨EO.out, ⟨none, 0, []⟩, rfl, rfl, nil_nums _⟩
      · have hM2 : k ≤ M := by omega
        obtain ⟨a, c, b2, o2, hv, rfl, hkc, hcm, cT⟩ := TH.out hM2 wr _ O.out
        subst hv
        have hMz : ¬ (M : Int) < (k : Int) := by omega
        have hMk : (k : Int) ≤ (c : Int) := by omega
        unfold maxLen at hcm
        have oc := OC.out hM2
        have f8 := F8.out hM2
        have f0 := F0.out hM2
        clear O TH OC F5 F8 F0 NX BC LL LN
        have oc : Hid (∀ (W : World) (m : Nm), m.z = DD → Nums W m → Ext w W → Calls Try.prog 26 #[.slice ya j yc, .slice xa j xc, .slice m.a m.z.length m.c] W fun e w' => e = .returned (.int .i64 (C : Nat)) ∧ Ext W w') := oc
        go_wp2_with fail
        refine cT.mono ?_
        rintro e w2 ⟨v, rfl, O2⟩
        clear cT
        have E2 : Hid (Ext w w2) := EO.out.trans O2.1
        obtain ⟨m, rfl, hmz, hmn⟩ := O2.nums
        have c3 := oc.out w2 m hmz hmn E2.out
        have MN : Hid (Nums w2 m) := hmn
        clear O2 hmn oc
        simp only [Nm.v] at *
        obtain ⟨ma, mc, mz⟩ := m
        simp only at *
        by_cases hC : 0 < C
        · obtain ⟨g1, g2⟩ := f8 hC
          subst g1 g2
          have hCz : (0 : Int) < (C : Int) := by omega
          clear f0 f8
          generalize mz.length = ml at *
          go_wp2_with fail
          refine c3.mono ?_
          rintro e w3 ⟨rfl, E3⟩
          have E4 : Hid (Ext w w3) := E2.out.trans E3
          clear c3 E3
          go_wp2
          go_ret2
          exact ⟨E4.out, ⟨none, 0, []⟩, rfl, rfl, nil_nums _⟩
        · obtain ⟨g1, g2⟩ := f0 hC
          subst g1 g2
          have hCz : ¬ (0 : Int) < (C : Int) := by omega
          clear f0 f8
          have FI : Hid (∀ W, Ext w2 W → ∃ m : Nm, (Ending.returned (.tuple #[.slice ma mz.length mc, .int .i64 0]) = .returned (.tuple #[.slice m.a m.z.length m.c, .int .i64 0])) ∧ m.z = FN ∧ Nums W m) := fun W E => ⟨⟨ma, mc, mz⟩, rfl, hmz, MN.out.ext E⟩
          clear MN hmz
          generalize mz.length = ml at *
          go_wp2_with fail
          refine c3.mono ?_
          rintro e w3 ⟨rfl, E3⟩
          have E4 : Hid (Ext w w3) := E2.out.trans E3
          have FJ := FI.out w3 E3
          clear c3 E3
          go_wp2
          go_ret2
          exact ⟨E4.out, FJ⟩

end Go.Proofs.Ytjdipgkdaloclaa
