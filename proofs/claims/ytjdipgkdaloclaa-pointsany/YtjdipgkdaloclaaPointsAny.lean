/-
  For any data, of which as many as there are data, at least, are not lost, they are told: PointsAny returns true for every number of places, all lists of numbers and all marks, and changes nothing.
-/
import Derived.Test.YtjdipgkdaloclaaOpen
import Derived.Test.YtjdipgkdaloclaaFm
import Derived.Test.YtjdipgkdaloclaaDf
import Derived.Test.YtjdipgkdaloclaaBt
import Derived.ProofKit
namespace Go.Proofs.Ytjdipgkdaloclaa
open Go.ChangeShapes Go.WideShapes Go.ChangeAt Go.RowKit Go.Deep
set_option linter.unusedVariables false

theorem info4 : (Try.prog.info? 4).map (fun i => (i.zero, i.size, i.bytes)) = some (some (.bool false), 1, 1) := by kernel_rfl

theorem pue_zero {n : Int} {z : List Int} (h : pue n z = 0) : ∃ m : Nat, n = m ∧ m ≤ 9 ∧ 1 ≤ z.length ∧ z.length ≤ m ∧ ∃ d : List Nat, z = zl d ∧ ∀ c ∈ d, c < 16 := by
  unfold pue at h
  by_cases h0 : pc z.length n = 0
  · rw [if_pos h0] at h
    have := pc_zero h0
    obtain ⟨d, e, hd⟩ := zl_of (fe_zero h)
    exact ⟨n.toNat, by omega, by omega, by omega, by omega, d, e, hd⟩
  · rw [if_neg h0] at h
    exact absurd h h0

/-- The data are told again. -/
theorem told_back {z : List Int} {bs : List Bool} {d : List Nat} (hn : z.length ≤ 9) (ho : okl z bs) (hd : ∀ c ∈ d, c < 16) (hk : d.length ≤ (lft bs z.length).length)
    (h : ∀ i, i < z.length → bs.getD i false = false → ((ep d i : Nat) : Int) = z.getD i 0) : fil z bs d.length (nd (lf z) (pf bs z.length) d.length) = 0 ∧ fin z bs d.length (nd (lf z) (pf bs z.length) d.length) = zl d := by
  have h1 : ∀ p ∈ lft bs z.length, p < z.length ∧ bs.getD p false = false := fun p hp => lft_mem.1 hp
  have p1 := plc_of hn ho h1 (lft_pw bs z.length) hk
  have e : nl (nd (lf z) (pf bs z.length) d.length) d.length = d := by
    have := nl_congr (same (k := d.length) (P := fun i => (lft bs z.length).getD i 0 + 1) (f := nd (lf z) (pf bs z.length) d.length) (g := fun i => d.getD i 0) (fun i _ => nd_lt p1 i) (fun i _ => getD_lt hd i) (fun i hi => by have := p1.low i hi; omega) (fun i j hi hj e => p1.one i j hi hj (by omega)) (fun i hi => by
      have hmi := h1 _ (getD_mem (l := lft bs z.length) (i := i) (by omega))
      have e1 := h _ hmi.1 hmi.2
      have e2 := val_of ho h1 hk i hi
      have e3 := nd_val p1 hi
      rw [e2] at e1
      have e4 := Int.ofNat.inj e1
      rw [nl_self d]
      exact e3.trans e4.symm))
    rw [this, nl_self d]
  have z0 : ¬ 0 < ofc z bs (nl (nd (lf z) (pf bs z.length) d.length) d.length) z.length := by
    rw [e]
    exact none_ofc h
  have f0 : fil z bs d.length (nd (lf z) (pf bs z.length) d.length) = 0 := by
    unfold fil
    rw [if_neg (by omega), if_neg z0]
  refine ⟨f0, ?_⟩
  unfold fin
  rw [if_pos f0, e]

/-- How many of the first k bits are set. -/
def gon (q k : Nat) : Nat := (List.range k).countP fun i => q.testBit i
theorem gon_next (q k : Nat) : gon q (k + 1) = gon q k + (if q.testBit k then 1 else 0) := by
  unfold gon
  rw [List.range_succ, List.countP_append]
  congr 1
  rw [List.countP_cons, List.countP_nil, Nat.zero_add]
theorem gon_le (q k : Nat) : gon q k ≤ k := by
  have := List.countP_le_length (p := fun i => q.testBit i) (l := List.range k)
  rwa [List.length_range] at this

/-- The marks, and the numbers of which the marked ones are -1. -/
abbrev mk (q n : Nat) : List Bool := (List.range n).map fun i => q.testBit i
abbrev ml (q n : Nat) (V : Nat → Nat) : List Int := (List.range n).map fun i => if q.testBit i then -1 else ((V i : Nat) : Int)
theorem mk_at (q : Nat) {n i : Nat} (h : i < n) : (mk q n).getD i false = q.testBit i := by simp [List.getD_eq_getElem?_getD, h]
theorem ml_at (q : Nat) (V : Nat → Nat) {n i : Nat} (h : i < n) : (ml q n V).getD i 0 = if q.testBit i then -1 else ((V i : Nat) : Int) := by simp [List.getD_eq_getElem?_getD, h]
theorem lft_gon (q n : Nat) : gon q n + (lft (mk q n) n).length = n := by
  have e : (lft (mk q n) n).length = (List.range n).countP fun i => !q.testBit i := by
    unfold lft
    rw [List.countP_eq_length_filter]
    congr 1
    refine List.filter_congr (fun i hi => ?_)
    rw [mk_at q (List.mem_range.1 hi)]
  rw [e]
  have := cnt_not (fun i => q.testBit i) (List.range n)
  rw [List.length_range] at this
  exact this

set_option maxRecDepth 100000 in
theorem any_bad (n : Int) (y : Nm) (q : Int) (X : Int) (hX : pue n y.z = X) (h0 : X ≠ 0) (w : World) (hy : Nums w y) : Calls Try.prog 5 #[.int .i64 n, y.v, .int .u32 q] w fun e w' => e = .returned (.bool true) ∧ Ext w w' := by
  have c1 := Put_bad n y X hX h0 w hy
  have c2 := numbers_any y w hy
  clear hy
  have hz : (X != 0) = true := bne_iff_ne.2 h0
  unfold pue at hX
  simp only [Nm.v] at *
  obtain ⟨F, hF⟩ : ∃ F, fe y.z = F := ⟨_, rfl⟩
  rw [hF] at c2 hX
  generalize y.z.length = m at *
  have hb : ∀ b : Bool, b = false → (!b) = true := fun b h => by rw [h]; rfl
  rcases Int.lt_or_le n 1 with h1 | h1
  · clear c2 hX h0 hF
    go_enter Try.func5, Try.ntmps5
    go_wp2_with fail
    refine c1.mono ?_
    rintro e w' ⟨rfl, hh⟩
    have hh := hh.symm
    subst hh
    clear c1
    go_wp2
    go_ret
    exact ⟨rfl, Ext.refl _⟩
  · have g1 : ¬ n < (1 : Int) := by omega
    rcases Int.lt_or_le 9 n with h9 | h9
    · clear c2 hX h0 hF
      go_enter Try.func5, Try.ntmps5
      go_wp2_with fail
      refine c1.mono ?_
      rintro e w' ⟨rfl, hh⟩
      have hh := hh.symm
      subst hh
      clear c1
      go_wp2
      go_ret
      exact ⟨rfl, Ext.refl _⟩
    · have g9 : ¬ (9 : Int) < n := by omega
      by_cases hm : m = 0
      · subst hm
        clear c2 hX h0 hF
        go_enter Try.func5, Try.ntmps5
        go_wp2_with fail
        refine c1.mono ?_
        rintro e w' ⟨rfl, hh⟩
        have hh := hh.symm
        subst hh
        clear c1
        go_wp2
        go_ret
        exact ⟨rfl, Ext.refl _⟩
      · have gm0 : ((m : Int) == 0) = false := beq_eq_false_iff_ne.2 (by omega)
        rcases Int.lt_or_le n (m : Int) with h2 | h2
        · clear c2 hX h0 hF
          go_enter Try.func5, Try.ntmps5
          go_wp2_with fail
          refine c1.mono ?_
          rintro e w' ⟨rfl, hh⟩
          have hh := hh.symm
          subst hh
          clear c1
          go_wp2
          go_ret
          exact ⟨rfl, Ext.refl _⟩
        · have g2 : ¬ n < (m : Int) := by omega
          rw [if_pos (pc_good (by omega) h2 h9)] at hX
          have hFb : (F == 0) = false := beq_eq_false_iff_ne.2 (by rw [hX]; exact h0)
          rw [hFb] at c2
          clear hX h0 hF hFb
          go_enter Try.func5, Try.ntmps5
          go_wp2_with fail
          refine c1.mono ?_
          rintro e w' ⟨rfl, hh⟩
          have hh := hh.symm
          subst hh
          clear c1
          go_wp2_with fail
          refine c2.mono ?_
          rintro e w' ⟨rfl, hh⟩
          have hh := hh.symm
          subst hh
          clear c2
          go_wp2
          go_ret
          exact ⟨rfl, Ext.refl _⟩

set_option maxRecDepth 100000 in
theorem any_good (n q : Nat) (hq : q < 4294967296) (d : List Nat) (hd : ∀ c ∈ d, c < 16) (h1 : 1 ≤ d.length) (h2 : d.length ≤ n) (h9 : n ≤ 9) (y : Nm) (ey : y.z = zl d) (w : World) (hy : Nums w y) : Calls Try.prog 5 #[.int .i64 n, y.v, .int .u32 q] w fun e w' => e = .returned (.bool true) ∧ Ext w w' := by
  have c1 := Put_good n d hd h1 h2 h9 y ey w hy
  have la : y.z.length = d.length := by rw [ey, zl_len]
  have hyv : y.v = .slice y.a d.length y.c := by rw [Nm.v, la]
  have BI : Hid (∀ (i : Nat) W, i < 32 → Calls Try.prog 15 #[.int .u32 q, .int .i64 i] W fun e w' => e = .returned (.bool (q.testBit i)) ∧ w' = W) := fun i W hi => bit_any q i hq hi W
  have V16 : ∀ i, i < n → ep d i < 16 := fun i hi => ev_lt (by omega) hd
  have mlen : (ml q n (ep d)).length = n := by simp
  have klen : (mk q n).length = n := by simp
  have ho : okl (ml q n (ep d)) (mk q n) := fun i hi hb => by
    rw [mlen] at hi
    rw [mk_at q hi] at hb
    rw [ml_at q _ hi, hb, if_neg (by decide)]
    have := V16 i hi
    omega
  have hlg := lft_gon q n
  -- what Fill tells
  have TB : Hid (d.length ≤ (lft (mk q n) n).length → fil (ml q n (ep d)) (mk q n) d.length (nd (lf (ml q n (ep d))) (pf (mk q n) (ml q n (ep d)).length) d.length) = 0 ∧ fin (ml q n (ep d)) (mk q n) d.length (nd (lf (ml q n (ep d))) (pf (mk q n) (ml q n (ep d)).length) d.length) = zl d) := fun hk =>
    told_back (by rw [mlen]; exact h9) ho hd (by rw [mlen]; exact hk) (fun i hi hb => by
      rw [mlen] at hi
      rw [mk_at q hi] at hb
      rw [ml_at q _ hi, hb, if_neg (by decide)])
  have TN : Hid ((lft (mk q n) n).length < d.length → fil (ml q n (ep d)) (mk q n) d.length (nd (lf (ml q n (ep d))) (pf (mk q n) (ml q n (ep d)).length) d.length) = 5 ∧ fin (ml q n (ep d)) (mk q n) d.length (nd (lf (ml q n (ep d))) (pf (mk q n) (ml q n (ep d)).length) d.length) = []) := fun hk => by
    have : fil (ml q n (ep d)) (mk q n) d.length (nd (lf (ml q n (ep d))) (pf (mk q n) (ml q n (ep d)).length) d.length) = 5 := if_pos (by rw [mlen]; exact hk)
    exact ⟨this, by unfold fin; rw [this]; rfl⟩
  have FI : Hid (∀ (W : World) (B G : Nat), Row W B 3 ((ml q n (ep d)).map (Value.int .i64)) → Row W G 4 ((mk q n).map Value.bool) → Calls Try.prog 11 #[.int .i64 d.length, .slice (some ⟨B, 0, none⟩) n n, .slice (some ⟨G, 0, none⟩) n n] W fun e w' => Ext W w' ∧ ∃ m : Nm, e = .returned (.tuple #[m.v, .int .i64 (fil (ml q n (ep d)) (mk q n) d.length (nd (lf (ml q n (ep d))) (pf (mk q n) (ml q n (ep d)).length) d.length))]) ∧ m.z = fin (ml q n (ep d)) (mk q n) d.length (nd (lf (ml q n (ep d))) (pf (mk q n) (ml q n (ep d)).length) d.length) ∧ Nums w' m) := fun W B G R1 R2 => by
    have n1 := R1.nums (by rw [mlen]; unfold maxLen; omega)
    have n2 : Bls W ⟨some ⟨G, 0, none⟩, n, mk q n⟩ := by
      refine ⟨by show (mk q n).length ≤ n; omega, by show n ≤ maxLen; unfold maxLen; omega, by simp, G, 0, fun _ => rfl, fun i hi => ?_⟩
      have hi : i < (mk q n).length := hi
      have hi2 : i < n := by omega
      have := R2.cell i (by simp; exact hi2)
      rw [Nat.zero_add, this, mk_at q hi2]
      simp
    rw [mlen] at n1
    have := Fill_any d.length ⟨some ⟨B, 0, none⟩, n, ml q n (ep d)⟩ ⟨some ⟨G, 0, none⟩, n, mk q n⟩ h1 (by show _ ≤ (ml q n (ep d)).length; omega) (by show (ml q n (ep d)).length ≤ 9; omega) (by show (mk q n).length = (ml q n (ep d)).length; omega) _ _ (fun h => absurd ho h) (fun _ => ⟨rfl, rfl⟩) W n1 n2
    simp only [Nm.v, Bd.v, mlen, klen] at this ⊢
    exact this
  have IN : Hid (∀ (W : World) (m : Nm), Ext w W → m.z = zl d → Nums W m → Calls Try.prog 9 #[m.v, y.v] W fun e w' => e = .returned (.bool true) ∧ Qt W w') := fun W m E hm hN => by
    have := ints_any m y W hN (hy.ext E)
    rw [hm, ey, beq_self_eq_true] at this
    exact this
  have GN : Hid (∀ k, gon q (k + 1) = gon q k + (if q.testBit k then 1 else 0)) := fun k => gon_next q k
  have GL : Hid (∀ k, gon q k ≤ k) := fun k => gon_le q k
  have GZ : Hid (gon q 0 = 0) := rfl
  have hmk : ∀ W : World, (Instr.makeSlice 30 (.int .i64 (n : Int)) (.int .i64 (n : Int))).run Try.prog W = .ok (.slice (some ⟨W.heap.size, 0, none⟩) n n) (W.alloc (.cells (madeCells #[.bool false] n) 4)) := fun W =>
    run_make_row' 30 4 (.bool false) 1 Try.underlying30 info4 rfl .i64 .i64 n (by omega) (by omega) W
  rw [hyv] at c1 IN ⊢
  clear hyv la ey hy hd ho mlen klen V16
  have DLn : Hid ((zl d).length = d.length) := zl_len d
  generalize fil (ml q n (ep d)) (mk q n) d.length (nd (lf (ml q n (ep d))) (pf (mk q n) (ml q n (ep d)).length) d.length) = FX at *
  generalize fin (ml q n (ep d)) (mk q n) d.length (nd (lf (ml q n (ep d))) (pf (mk q n) (ml q n (ep d)).length) d.length) = FN at *
  generalize (lft (mk q n) n).length = M at *
  obtain ⟨V, hV⟩ : ∃ V, V = ep d := ⟨_, rfl⟩
  rw [← hV] at c1 FI
  obtain ⟨O, hO⟩ : ∃ O : Nat → Nat, O = gon q := ⟨_, rfl⟩
  rw [← hO] at GN GL GZ hlg
  obtain ⟨T, hT⟩ : ∃ T : Nat → Bool, T = fun i => q.testBit i := ⟨_, rfl⟩
  have GN1 : Hid (∀ k, O (k + 1) = O k + (if T k then 1 else 0)) := by rw [hT]; exact GN.out
  have BI1 : Hid (∀ (i : Nat) W, i < 32 → Calls Try.prog 15 #[.int .u32 q, .int .i64 i] W fun e w' => e = .returned (.bool (T i)) ∧ w' = W) := by rw [hT]; exact BI.out
  -- the rows when k rounds are over
  obtain ⟨fr, hfr⟩ : ∃ fr : Nat → Nat → Value, fr = fun k i => Value.int .i64 (if (decide (i < k) && T i) = true then -1 else ((V i : Nat) : Int)) := ⟨_, rfl⟩
  obtain ⟨gr, hgr⟩ : ∃ gr : Nat → Nat → Value, gr = fun k i => Value.bool (decide (i < k) && T i) := ⟨_, rfl⟩
  have FR0 : Hid (∀ i, fr 0 i = Value.int .i64 ((V i : Nat) : Int)) := fun i => by rw [hfr]; simp
  have GR0 : Hid (∀ i, gr 0 i = Value.bool false) := fun i => by rw [hgr]; simp
  have FRT : Hid (∀ k i, T k = true → fr (k + 1) i = if i = k then Value.int .i64 (-1) else fr k i) := fun k i hk => by
    rw [hfr]
    simp only
    by_cases h : i = k
    · subst h; simp [hk]
    · have : decide (i < k + 1) = decide (i < k) := by rw [Bool.eq_iff_iff]; simp; omega
      rw [if_neg h, this]
  have FRF : Hid (∀ k i, T k = false → fr (k + 1) i = fr k i) := fun k i hk => by
    rw [hfr]
    simp only
    by_cases h : i = k
    · subst h; simp [hk]
    · have : decide (i < k + 1) = decide (i < k) := by rw [Bool.eq_iff_iff]; simp; omega
      rw [this]
  have GRN : Hid (∀ k i, gr (k + 1) i = if i = k then Value.bool (T k) else gr k i) := fun k i => by
    rw [hgr]
    simp only
    by_cases h : i = k
    · subst h; simp
    · have : decide (i < k + 1) = decide (i < k) := by rw [Bool.eq_iff_iff]; simp; omega
      rw [if_neg h, this]
  have FRE : Hid ((List.range n).map (fr n) = (ml q n V).map (Value.int .i64)) := by
    rw [Hid, hfr, hT]
    unfold ml
    rw [List.map_map]
    refine List.map_congr_left (fun i hi => ?_)
    have := List.mem_range.1 hi
    simp [this]
  have GRE : Hid ((List.range n).map (gr n) = (mk q n).map Value.bool) := by
    rw [Hid, hgr, hT]
    unfold mk
    rw [List.map_map]
    refine List.map_congr_left (fun i hi => ?_)
    have := List.mem_range.1 hi
    simp [this]
  rw [← FRE.out, ← GRE.out] at FI
  clear hV hO hT hfr hgr GN BI FRE GRE
  generalize zl d = DD at *
  generalize d.length = m at *
  generalize y.a = ya at *
  generalize y.c = yc at *
  go_enter Try.func5, Try.ntmps5
  go_wp2_with fail
  refine c1.mono ?_
  rintro e w1 ⟨rfl, E1, R1⟩
  have RL : Hid (Row (w1.alloc (.cells (madeCells #[.bool false] n) 4)) w.heap.size 3 ((List.range n).map (fr 0))) := by
    have e : (List.range n).map (fr 0) = nf V n := List.map_congr_left (fun i _ => FR0.out i)
    rw [Hid, e]
    exact R1.ext ((Ext.refl _).alloc _)
  have RG : Hid (Row (w1.alloc (.cells (madeCells #[.bool false] n) 4)) w1.heap.size 4 ((List.range n).map (gr 0))) := Row.madeF w1 4 (.bool false) n _ (fun i _ => GR0.out i)
  have EE : Hid (Ext w (w1.alloc (.cells (madeCells #[.bool false] n) 4))) := E1.alloc _
  have hGB : w.heap.size < w1.heap.size := R1.lt
  clear c1 E1 R1
  go_wp2_with fail
  clear hmk
  generalize w1.alloc (.cells (madeCells #[.bool false] n) 4) = w2 at *
  generalize w1.heap.size = G at *
  go_loopg [10, 11] n (fun gg s10 s11 wr => ∃ k : Nat, k ≤ n ∧ n - k ≤ gg ∧ s11 = .int .i64 k ∧ s10 = .int .i64 (O k : Nat) ∧ Aside (Ext w wr) ∧ Aside (Row wr w.heap.size 3 ((List.range n).map (fr k))) ∧ Aside (Row wr G 4 ((List.range n).map (gr k))))
  case atStart => exact ⟨0, by omega, by omega, rfl, by rw [GZ.out]; rfl, EE.out, RL.out, RG.out⟩
  case round =>
    obtain ⟨k, hk, hgg, rfl, rfl, E, RA, RB⟩ := hrel
    clear EE RL RG
    by_cases hlt : k < n
    · have hltz : (k : Int) < (n : Int) := by omega
      have b1 := BI1.out k wr (by omega)
      have hc1 := RB.out.cellF k hlt
      have hf1 := RB.out.fr k
      have R2 : Row (wr.setCell ⟨G, k, none⟩ (.bool (T k))) G 4 ((List.range n).map (gr (k + 1))) := RB.out.setF _ _ (fun i _ => GRN.out k i)
      have A2 : Row (wr.setCell ⟨G, k, none⟩ (.bool (T k))) w.heap.size 3 ((List.range n).map (fr k)) := RA.out.other _ (by simp; omega) _
      have E2 : Ext w (wr.setCell ⟨G, k, none⟩ (.bool (T k))) := E.out.setCell (p := ⟨G, k, none⟩) (by simp; omega) _
      have hc2 : (wr.setCell ⟨G, k, none⟩ (.bool (T k))).cell? ⟨G, k, none⟩ = some (.bool (T k)) := by
        have := R2.cellF k hlt
        rw [GRN.out k k, if_pos rfl] at this
        exact this
      have gn := GN1.out k
      have gl := GL.out k
      cases ht : T k
      · rw [ht] at gn b1 R2 A2 E2 hc2
        rw [if_neg (by decide), Nat.add_zero] at gn
        have A3 : Hid (Row (wr.setCell ⟨G, k, none⟩ (.bool false)) w.heap.size 3 ((List.range n).map (fr (k + 1)))) := by
          have e : (List.range n).map (fr (k + 1)) = (List.range n).map (fr k) := List.map_congr_left (fun i _ => FRF.out k i ht)
          rw [Hid, e]
          exact A2
        have R3 : Hid (Row (wr.setCell ⟨G, k, none⟩ (.bool false)) G 4 ((List.range n).map (gr (k + 1)))) := R2
        have E3 : Hid (Ext w (wr.setCell ⟨G, k, none⟩ (.bool false))) := E2
        have GN2 : Hid (O (k + 1) = O k) := gn
        clear A2 R2 E2 gn ht E RA RB FRT FRF GRN GN1 BI1
        go_wp2_with fail
        refine b1.mono ?_
        rintro e w' ⟨rfl, hh⟩
        have hh := hh.symm
        subst hh
        clear b1
        go_wp2
        go_roundg (n - (k + 1))
        case measure => omega
        case rel => exact ⟨k + 1, by omega, by omega, by go_num, by rw [GN2.out], E3.out, A3.out, R3.out⟩
      · rw [ht] at gn b1 R2 A2 E2 hc2
        rw [if_pos rfl] at gn
        have hc3 := A2.cellF k hlt
        have hf3 := A2.fr k
        have A3 : Hid (Row ((wr.setCell ⟨G, k, none⟩ (.bool true)).setCell ⟨w.heap.size, k, none⟩ (.int .i64 (-1))) w.heap.size 3 ((List.range n).map (fr (k + 1)))) := A2.setF _ _ (fun i _ => FRT.out k i ht)
        have R3 : Hid (Row ((wr.setCell ⟨G, k, none⟩ (.bool true)).setCell ⟨w.heap.size, k, none⟩ (.int .i64 (-1))) G 4 ((List.range n).map (gr (k + 1)))) := R2.other _ (by simp; omega) _
        have E3 : Hid (Ext w ((wr.setCell ⟨G, k, none⟩ (.bool true)).setCell ⟨w.heap.size, k, none⟩ (.int .i64 (-1)))) := E2.setCell (p := ⟨w.heap.size, k, none⟩) (Nat.le_refl _) _
        have GN2 : Hid (O (k + 1) = O k + 1) := gn
        clear A2 R2 E2 gn ht E RA RB FRT FRF GRN GN1 BI1
        generalize hOk : O k = ok at *
        clear hOk
        generalize fr k k = fk at *
        go_wp2_with fail
        refine b1.mono ?_
        rintro e w' ⟨rfl, hh⟩
        have hh := hh.symm
        subst hh
        clear b1
        go_wp2
        go_roundg (n - (k + 1))
        case measure => omega
        case rel => exact ⟨k + 1, by omega, by omega, by go_num, by rw [GN2.out]; go_num, E3.out, A3.out, R3.out⟩
    · obtain rfl : k = n := by omega
      have hnot : ¬ (k : Int) < (k : Int) := by omega
      have c2 := FI.out wr w.heap.size G RA.out RB.out
      have EW : Hid (Ext w wr) := E.out
      have gl := GL.out k
      clear E RA RB FRT FRF GRN GN1 BI1 FR0 GR0 FI GL
      generalize O k = ok at *
      by_cases hM : M < m
      · obtain ⟨x1, x2⟩ := TN.out hM
        subst x1 x2
        have hMz : (k : Int) - (ok : Int) < (m : Int) := by omega
        clear TN TB IN
        go_wp2_with fail
        refine c2.mono ?_
        rintro e w3 ⟨E3, p, rfl, hp, hN⟩
        have hpv : p.v = .slice p.a 0 p.c := by rw [Nm.v, hp]; rfl
        rw [hpv]
        have E4 : Hid (Ext w w3) := EW.out.trans E3
        clear c2 E3 hN hp hpv
        go_wp2
        go_ret
        exact ⟨rfl, E4.out⟩
      · obtain ⟨x1, x2⟩ := TB.out (by omega)
        subst x1 x2
        have hMz : ¬ (k : Int) - (ok : Int) < (m : Int) := by omega
        clear TN TB
        go_wp2_with fail
        refine c2.mono ?_
        rintro e w3 ⟨E3, p, rfl, hp, hN⟩
        have k3 := IN.out w3 p (EW.out.trans E3) hp hN
        have E4 : Hid (Ext w w3) := EW.out.trans E3
        clear c2 E3 hN hp IN
        simp only [Nm.v] at *
        generalize p.z.length = pl at *
        generalize p.a = pa at *
        generalize p.c = pcc at *
        go_wp2_with fail
        refine k3.mono ?_
        rintro e w4 ⟨rfl, q4⟩
        have E5 : Hid (Ext w w4) := E4.out.trans q4.ext
        clear k3 q4 E4
        go_wp2
        go_ret
        exact ⟨rfl, E5.out⟩

theorem u32_of {x : Int} (h : (Lit.int .u32 x).wf = true) : 0 ≤ x ∧ x < 4294967296 := by
  have h1 : IntKind.u32.min = 0 := rfl
  have h2 : IntKind.u32.max = 4294967295 := rfl
  simp only [Lit.wf, h1, h2, Bool.and_eq_true, decide_eq_true_eq] at h
  omega

theorem any_walk (n : Int) (y : Nm) (q : Int) (hq0 : 0 ≤ q) (hq : q < 4294967296) (w : World) (hy : Nums w y) : Calls Try.prog 5 #[.int .i64 n, y.v, .int .u32 q] w fun e w' => e = .returned (.bool true) ∧ Ext w w' := by
  by_cases h : pue n y.z = 0
  · obtain ⟨m, rfl, h9, h1, h2, d, e, hd⟩ := pue_zero h
    obtain ⟨r, rfl⟩ : ∃ r : Nat, q = r := ⟨q.toNat, by omega⟩
    have hl : y.z.length = d.length := by rw [e, zl_len]
    exact any_good m r (by omega) d hd (by omega) (by omega) h9 y e w hy
  · exact any_bad n y q _ rfl h w hy

set_option maxRecDepth 100000 in
theorem pointsAny_lifted (os : Os) (started : os.Started) (H : Type) (enc : TypeId × Value → H) :
    ReturnsInHanded {} Try.checked os 5 .any (Rows.pointsAnySpec.pre6 enc Try.prog Try.f5 Rows.pointsAnyRow.domain false) (Rows.pointsAnySpec.post enc Try.prog Try.f5 false true false false) := by
  refine returnsInHanded_of_change (C := Try.checked) own started (by kernel_rfl) Try.func5
    (ChangeSpec.witness6 (enc := enc) (C := Try.checked) false ⟨#[], #[.int .i64 0, .slice none 0 0, .int .u32 0], []⟩ 8 (by kernel_rfl) (by kernel_rfl) (by kernel_rfl) (by kernel_rfl)) ?_
  intro W base args ds gs before hval0 hW _ _
  have hval : ∀ (j : Nat) t v, Try.f5.params[j]? = some t → args[j]? = some v → Value.okWide Try.prog W .any base t v := hval0
  have hW' := hW
  obtain ⟨p, q, hA0, hV, rfl, hfz, hnd⟩ := hW
  have hA : DataW.TrodAll enc Try.prog W 0 (fun _ => true) true Try.f5.params.toList args.toList ds p := hA0
  rw [Try.params5] at hA hval
  obtain ⟨v0, vs0, d0, ds0, p0, q0, hargs, rfl, rfl, h0, r0⟩ := trodAll_cons hA
  obtain ⟨v1, vs1, d1, ds1, p1, q1, rfl, rfl, rfl, h1, r1⟩ := trodAll_cons r0
  obtain ⟨v2, vs2, d2, ds2, p2, q2, rfl, rfl, rfl, h2, r2⟩ := trodAll_cons r1
  obtain ⟨rfl, rfl, rfl⟩ := trodAll_nil r2
  obtain rfl : args = #[v0, v1, v2] := by cases args; simp_all
  obtain ⟨rfl, rfl⟩ := trodVars_none hV
  have lt0 : ∀ x ∈ p0, x.block < W.heap.size := by obtain ⟨m, hm⟩ := h0; exact DataW.trod_lt m _ _ _ hm
  obtain ⟨x0, rfl, -, -, wf0⟩ := open_int Try.underlying3 (hval 0 3 v0 rfl rfl) h0
  have lt1 : ∀ x ∈ p1, x.block < W.heap.size := by obtain ⟨m, hm⟩ := h1; exact DataW.trod_lt m _ _ _ hm
  obtain ⟨x1, rfl, w1⟩ := open_syms (hval 1 22 v1 rfl rfl) h1
  have lt2 : ∀ x ∈ p2, x.block < W.heap.size := by obtain ⟨m, hm⟩ := h2; exact DataW.trod_lt m _ _ _ hm
  obtain ⟨x2, rfl, -, -, wf2⟩ := open_int Try.underlying34 (hval 2 34 v2 rfl rfl) h2
  clear hA0 hval0
  refine (any_walk x0 x1 x2 (u32_of wf2).1 (u32_of wf2).2 W w1).mono fun e W' ⟨he, bel⟩ => ?_
  subst he
  exact ⟨_, rfl, _, _, _, [], _, [], hW', trodAll_mk1 (shut_bool Try.underlying4 _), (trodAll_cons_mk (Below.trod laidOut (by kernel_rfl) (of_decide_eq_true (by kernel_rfl)) h0 bel lt0) (trodAll_cons_mk (Below.trod laidOut (by kernel_rfl) (of_decide_eq_true (by kernel_rfl)) h1 bel lt1) (trodAll_cons_mk (Below.trod laidOut (by kernel_rfl) (of_decide_eq_true (by kernel_rfl)) h2 bel lt2) trodAll_mk0))), rfl, bel.frame _, fun h => by cases h⟩

theorem pointsAny_holds : Rows.PointsAnySaid :=
  OpenClaim.holds_of_wide 5 Try.f5 rfl rfl rfl rfl rfl rfl rfl ⟨rfl, rfl, rfl, rfl, rfl⟩ rfl rfl rfl rfl rfl (by kernel_rfl) Try.func5 (by kernel_rfl)
    (of_decide_eq_true (by kernel_rfl)) (by unfold Func.isWrapper; rw [if_neg (of_decide_eq_false (by kernel_rfl))]; exact ⟨rfl, rfl⟩)
    (fun os started H enc _ => pointsAny_lifted os started H enc)

#print axioms pointsAny_holds

end Go.Proofs.Ytjdipgkdaloclaa
