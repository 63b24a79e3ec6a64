/-
  quipuref.Fixed.
-/
import Derived.Test.YtjdipgkdaloclaaDoorFx
import Derived.Test.YtjdipgkdaloclaaDoorTr
import Derived.Test.YtjdipgkdaloclaaDoorOf
namespace Go.Proofs.YtjdipgkdaloclaaDoor
open Go.RowKit
set_option linter.unusedVariables false

theorem size_any (x : Nat) (hx : x < 4294967296) (w : World) : Calls Tryd.prog 18 #[.int .u32 x] w fun e w' => e = .returned (.int .i64 (pop x : Nat)) ∧ w' = w := by
  have BT : Hid (∀ (i : Nat) W, i < 32 → Calls Tryd.prog 19 #[.int .u32 x, .int .i64 i] W fun e w' => e = .returned (.bool (x.testBit i)) ∧ w' = W) := fun i W hi => bit_any x i hx hi W
  go_enter Tryd.func18, Tryd.ntmps18
  go_wp2
  go_loopg [3, 4] 32 (fun gg s3 s4 wr => ∃ k : Nat, k ≤ 32 ∧ 32 - k ≤ gg ∧ s3 = .int .i64 (popN k x : Nat) ∧ s4 = .int .i64 k ∧ wr = w)
  case atStart => exact ⟨0, Nat.zero_le _, by omega, rfl, rfl, rfl⟩
  case round =>
    obtain ⟨k, hk, hgg, rfl, rfl, rfl⟩ := hrel
    by_cases hlt : k < 32
    · have hltz : (k : Int) < 32 := by omega
      have c1 := BT.out k wr hlt
      have few := popN_le k x
      have nx : Hid (popN (k + 1) x = popN k x + (if x.testBit k then 1 else 0)) := rfl
      generalize popN k x = A at *
      generalize x.testBit k = b at *
      go_wp2_with fail
      refine c1.mono ?_
      rintro e w' ⟨rfl, rfl⟩
      clear c1
      cases b
      · go_wp2
        go_roundg (32 - (k + 1))
        case measure => omega
        case rel => exact ⟨k + 1, by omega, by omega, by rw [nx.out]; rfl, by go_num, rfl⟩
      · go_wp2
        go_roundg (32 - (k + 1))
        case measure => omega
        case rel => exact ⟨k + 1, by omega, by omega, by rw [nx.out]; rfl, by go_num, rfl⟩
    · have hk' : k = 32 := by omega
      subst hk'
      go_wp2
      go_ret
      exact ⟨rfl, rfl⟩

theorem info4 : (Tryd.prog.info? 4).map (fun i => (i.zero, i.size, i.bytes)) = some (some (.bool false), 1, 1) := by kernel_rfl

/-- A row of marks, none of which is set. -/
theorem none_bls (w : World) (n : Nat) (hn : n ≤ 1000) : Bls (w.alloc (.cells (madeCells #[.bool false] n) 4)) ⟨some ⟨w.heap.size, 0, none⟩, n, List.replicate n false⟩ := by
  have R := Row.made w 4 (.bool false) n
  refine ⟨by simp, by show n ≤ maxLen; unfold maxLen; omega, by simp, w.heap.size, 0, fun _ => rfl, fun i hi => ?_⟩
  have hi2 : i < n := by simpa using hi
  have := R.cell i (by simpa using hi2)
  rw [Nat.zero_add, this]
  simp [List.getD_eq_getElem?_getD, hi2]

theorem fil_next (s i : Nat) : zl ((List.range (i + 1)).filter fun j => s.testBit j) = zl ((List.range i).filter fun j => s.testBit j) ++ (if s.testBit i then [(i : Int)] else []) := by
  rw [List.range_succ, List.filter_append, zl, List.map_append]
  congr 1
  rw [List.filter_cons]
  cases s.testBit i <;> simp

set_option maxRecDepth 100000 in
set_option maxHeartbeats 2000000 in
theorem Fixed_any (k : Nat) (y : Nm) (hz : ∀ x ∈ y.z, 0 ≤ x ∧ x ≤ 15) (hk1 : 1 ≤ k) (hk2 : k ≤ y.z.length) (hn : y.z.length ≤ 9) (w : World) (hy : Nums w y) :
    Calls Tryd.prog 8 #[.int .i64 k, y.v] w fun e w' => Ext w w' ∧ ∃ (m : Nm) (X : Int), e = .returned (.tuple #[m.v, .bool (X == 0)]) ∧ Nums w' m ∧ Told y.z k X m.z := by
  obtain ⟨n, hn0⟩ : ∃ n, y.z.length = n := ⟨_, rfl⟩
  have p2 : 2 ^ n ≤ 2 ^ 9 := Nat.pow_le_pow_right (by omega) (by omega)
  have HYV : Hid (y.v = .slice y.a n y.c) := by rw [Hid, ← hn0]
  have SZ : Hid (∀ (s : Nat) W, s < 512 → Calls Tryd.prog 18 #[.int .u32 s] W fun e w' => e = .returned (.int .i64 (pop s : Nat)) ∧ w' = W) := fun s W hs => size_any s (by omega) W
  have BI : Hid (∀ (s i : Nat) W, s < 512 → i < 32 → Calls Tryd.prog 19 #[.int .u32 s, .int .i64 i] W fun e w' => e = .returned (.bool (s.testBit i)) ∧ w' = W) := fun s i W hs hi => bit_any s i (by omega) hi W
  have TH : Hid (∀ (s : Nat) W (q : Nm), s < 2 ^ n → pop s = k → Ext w W → q.z = zl ((List.range n).filter fun j => s.testBit j) → Nums W q → Calls Tryd.prog 20 #[.slice y.a n y.c, q.v] W fun e w' => ∃ m : Nm, e = .returned m.v ∧ m.z = zl (sd y.z k s) ∧ Nums w' m ∧ Ext W w') := fun s W q hs hp E hq hqn => by
    rw [pl_below (by omega) hs] at hq
    have hs' : s < 2 ^ y.z.length := by rw [hn0]; exact hs
    have := refThrough_any (fun p => (y.z.getD p 0).toNat) (fun i => (pl s).getD i 0) k y q (set_thr hz (by omega) hk1 hs' hp y q rfl hq) W (hy.ext E) hqn
    rw [HYV.out] at this
    exact this.mono fun e w' ⟨v, he, O2⟩ => by
      obtain ⟨m, rfl, hm, hN⟩ := O2.nums
      exact ⟨m, he, hm, hN, O2.1⟩
  have OF : Hid (∀ (s : Nat) W (x : Bd) (m : Nm), s < 2 ^ n → pop s = k → x.l = List.replicate n false → Ext w W → Bls W x → m.z = zl (sd y.z k s) → Nums W m → Calls Tryd.prog 21 #[.slice y.a n y.c, x.v, m.v] W fun e w' => e = .returned (.int .i64 (sc y.z k s : Nat)) ∧ Ext W w') := fun s W x m hs hp hx E hb hm hN => by
    have := off_any (sd y.z k s) (sd_lt hz (by omega) hk1 (by rw [hn0]; exact hs) hp) y x m hm (by omega) (by rw [hx, hn0]; simp) W (hy.ext E) hb hN
    have e : ofc y.z x.l (sd y.z k s) y.z.length = sc y.z k s := by
      have := sc_ofc y.z (sd y.z k s)
      rw [hx, ← hn0]
      exact this
    rw [e, HYV.out] at this
    exact this
  have SC : Hid (∀ s, sc y.z k s ≤ n) := fun s => by
    unfold sc
    rw [hn0]
    exact dfc_le _ _ _
  have hmk : ∀ W : World, (Instr.makeSlice 42 (.int .i64 (n : Int)) (.int .i64 (n : Int))).run Tryd.prog W = .ok (.slice (some ⟨W.heap.size, 0, none⟩) n n) (W.alloc (.cells (madeCells #[.bool false] n) 4)) := fun W =>
    run_make_row' 42 4 (.bool false) 1 Tryd.underlying42 info4 rfl .i64 .i64 n (by omega) (by omega) W
  have N0 : Hid (Bls (w.alloc (.cells (madeCells #[.bool false] n) 4)) ⟨some ⟨w.heap.size, 0, none⟩, n, List.replicate n false⟩) := none_bls w n (by omega)
  have E0 : Hid (Ext w (w.alloc (.cells (madeCells #[.bool false] n) 4))) := (Ext.refl w).alloc _
  have NE : Hid (∀ s, pop s = k → 2 * sc y.z k s + k ≤ n → near y.z k s) := fun s hp h => ⟨hp, by rw [hn0]; exact h⟩
  have NO : Hid (∀ s, near y.z k s → pop s = k ∧ 2 * sc y.z k s + k ≤ n) := fun s h => ⟨h.1, by have := h.2; rw [hn0] at this; exact this⟩
  have TO : Hid (∀ X r, ((X = 0 ∧ ∃ s, s < 2 ^ n ∧ near y.z k s ∧ (∀ t, t < s → ¬ near y.z k t) ∧ r = zl (sd y.z k s)) ∨ (X = 5 ∧ r = [] ∧ ∀ t, t < 2 ^ n → ¬ near y.z k t)) → Told y.z k X r) := fun X r h => by
    unfold Told
    rw [hn0]
    exact h
  have FN : Hid (∀ s i : Nat, zl ((List.range (i + 1)).filter fun j => s.testBit j) = zl ((List.range i).filter fun j => s.testBit j) ++ (if s.testBit i then [(i : Int)] else [])) := fil_next
  have FL : Hid (∀ s i : Nat, (zl ((List.range i).filter fun j => s.testBit j)).length ≤ i) := fun s i => by
    rw [zl_len]
    have := List.length_filter_le (fun j => s.testBit j) (List.range i)
    rwa [List.length_range] at this
  have F0 : Hid (∀ s : Nat, zl ((List.range 0).filter fun j => s.testBit j) = []) := fun s => rfl
  have hsh : (2 : Int) ^ n % 4294967296 = ((2 ^ n : Nat) : Int) := by
    have e : (2 : Int) ^ n = ((2 ^ n : Nat) : Int) := by rw [Int.natCast_pow]; rfl
    rw [e]
    generalize 2 ^ n = M at *
    omega
  have hw64 : IntKind.u64.wrap (n : Int) = (n : Int) := by rw [IntKind.wrap_u64]; omega
  have hmin : min n 32 = n := by omega
  rw [HYV.out]
  clear hy hz HYV
  obtain ⟨G, hG⟩ : ∃ G : Nat → Nat → List Int, G = fun s i => zl ((List.range i).filter fun j => s.testBit j) := ⟨_, rfl⟩
  have TH1 : Hid (∀ (s : Nat) W (q : Nm), s < 2 ^ n → pop s = k → Ext w W → q.z = G s n → Nums W q → Calls Tryd.prog 20 #[.slice y.a n y.c, q.v] W fun e w' => ∃ m : Nm, e = .returned m.v ∧ m.z = zl (sd y.z k s) ∧ Nums w' m ∧ Ext W w') := by rw [hG]; exact TH.out
  have FN1 : Hid (∀ s i, G s (i + 1) = G s i ++ (if s.testBit i then [(i : Int)] else [])) := by rw [hG]; exact FN.out
  have FL1 : Hid (∀ s i, (G s i).length ≤ i) := by rw [hG]; exact FL.out
  have F01 : Hid (∀ s, G s 0 = []) := by rw [hG]; exact F0.out
  clear hG TH FN FL F0 hn0
  generalize 2 ^ n = M at *
  generalize y.a = ya at *
  generalize y.c = yc at *
  go_enter Tryd.func8, Tryd.ntmps8
  go_wp2
  clear hmk
  generalize w.alloc (.cells (madeCells #[.bool false] n) 4) = w1 at *
  go_loopg [8, 9, 10, 11] M (fun gg s8 _ _ _ wr => ∃ s : Nat, s ≤ M ∧ M - s ≤ gg ∧ s8 = .int .u32 s ∧ Aside (Ext w1 wr) ∧ Aside (∀ t, t < s → ¬ near y.z k t))
  case atStart => exact ⟨0, by omega, by omega, rfl, Ext.refl _, fun t ht => absurd ht (Nat.not_lt_zero t)⟩
  case round =>
    obtain ⟨s, hs, hgg, rfl, E, A⟩ := hrel
    by_cases hlt : s < M
    · have hltz : (s : Int) < (M : Int) := by omega
      have c1 := SZ.out s wr (by omega)
      by_cases hp : pop s = k
      · have hpk : (((pop s : Nat) : Int) != (k : Int)) = false := bne_eq_false_iff_eq.2 (by omega)
        have TH2 : Hid (∀ W (q : Nm), Ext w W → q.z = G s n → Nums W q → Calls Tryd.prog 20 #[.slice ya n yc, q.v] W fun e w' => ∃ m : Nm, e = .returned m.v ∧ m.z = zl (sd y.z k s) ∧ Nums w' m ∧ Ext W w') := fun W q E hq hN => TH1.out s W q hlt hp E hq hN
        have OF2 : Hid (∀ W (x : Bd) (m : Nm), x.l = List.replicate n false → Ext w W → Bls W x → m.z = zl (sd y.z k s) → Nums W m → Calls Tryd.prog 21 #[.slice ya n yc, x.v, m.v] W fun e w' => e = .returned (.int .i64 (sc y.z k s : Nat)) ∧ Ext W w') := fun W x m => OF.out s W x m hlt hp
        have BI2 : Hid (∀ (i : Nat) W, i < 32 → Calls Tryd.prog 19 #[.int .u32 s, .int .i64 i] W fun e w' => e = .returned (.bool (s.testBit i)) ∧ w' = W) := fun i W hi => BI.out s i W (by omega) hi
        have hscl := SC.out s
        have HNE : Hid (2 * sc y.z k s + k ≤ n → near y.z k s) := fun h => NE.out s hp h
        have HNO : Hid (¬ 2 * sc y.z k s + k ≤ n → ∀ t, t < s + 1 → ¬ near y.z k t) := fun h t ht => by
          rcases Nat.lt_succ_iff_lt_or_eq.1 ht with h' | rfl
          · exact A.out t h'
          · exact fun h2 => h (NO.out t h2).2
        have FN2 : Hid (∀ i, G s (i + 1) = G s i ++ (if s.testBit i then [(i : Int)] else [])) := fun i => FN1.out s i
        have FL2 : Hid (∀ i, (G s i).length ≤ i) := fun i => FL1.out s i
        have F02 : Hid (G s 0 = []) := F01.out s
        have EW : Hid (Ext w1 wr) := E.out
        have TOs : Hid (∀ r, near y.z k s → r = zl (sd y.z k s) → Told y.z k 0 r) := fun r h hr => TO.out 0 r (.inl ⟨rfl, s, hlt, h, A.out, hr⟩)
        clear TH1 OF BI SC NE NO FN1 FL1 F01 SZ E A TO
        generalize pop s = ps at *
        generalize hGs : G s = Gs at *
        clear hGs
        obtain ⟨T, hT⟩ : ∃ T : Nat → Bool, T = fun i => s.testBit i := ⟨_, rfl⟩
        have BI3 : Hid (∀ (i : Nat) W, i < 32 → Calls Tryd.prog 19 #[.int .u32 s, .int .i64 i] W fun e w' => e = .returned (.bool (T i)) ∧ w' = W) := by rw [hT]; exact BI2.out
        have FN3 : Hid (∀ i, Gs (i + 1) = Gs i ++ (if T i then [(i : Int)] else [])) := by rw [hT]; exact FN2.out
        clear hT BI2 FN2
        go_wp2_with fail
        refine c1.mono ?_
        rintro e w' ⟨rfl, hh⟩
        have hh := hh.symm
        subst hh
        clear c1
        go_wp2
        go_loopg [9, 10] n (fun g2 s9 s10 wi => ∃ i : Nat, i ≤ n ∧ n - i ≤ g2 ∧ s10 = .int .i64 i ∧ Aside (OwnN w1 wi s9 (Gs i)))
        case atStart => exact ⟨0, by omega, by omega, rfl, by rw [F02.out]; exact OwnN.nil EW.out⟩
        case round =>
          obtain ⟨i, hi, hg2, rfl, O⟩ := hrel
          by_cases hlt2 : i < n
          · have hltz2 : (i : Int) < (n : Int) := by omega
            have b1 := BI3.out i wr (by omega)
            have nx := FN3.out i
            have ln := FL2.out i
            cases ht : T i
            · rw [ht] at nx b1
              rw [if_neg (by decide), List.append_nil] at nx
              have O2 : Hid (OwnN w1 wr u9 (Gs (i + 1))) := by rw [Hid, nx]; exact O.out
              clear O nx ht ln FN3 BI3
              go_wp2_with fail
              refine b1.mono ?_
              rintro e w' ⟨rfl, hh⟩
              have hh := hh.symm
              subst hh
              clear b1
              go_wp2
              go_roundg (n - (i + 1))
              case measure => omega
              case rel => exact ⟨i + 1, by omega, by omega, by go_num, O2.out⟩
            · rw [ht] at nx b1
              rw [if_pos rfl] at nx
              have O1 : Hid (OwnN w1 wr u9 (Gs i)) := O.out
              obtain ⟨a, c, hv⟩ := O.out.form
              subst hv
              have NX2 : Hid (Gs (i + 1) = Gs i ++ [(i : Int)]) := nx
              have LZ : Hid ((Gs i).length + 1 ≤ 1000000000) := by rw [Hid]; omega
              clear O nx ht FN3 BI3
              generalize hzz : Gs i = z at *
              clear hzz ln
              obtain ⟨zn, hzn⟩ : ∃ zn, z.length = zn := ⟨_, rfl⟩
              rw [hzn] at O1 ⊢
              clear hzn
              go_wp2_with fail
              refine b1.mono ?_
              rintro e w' ⟨rfl, hh⟩
              have hh := hh.symm
              subst hh
              clear b1
              go_wp2_with (at_builtin; refine wpList_appendNum rfl _ _ rfl w1 _ (.slice a zn c) rfl z O1.out _ rfl (by have := LZ.out; omega) ?_; intro v2 w2 O3)
              have O4 : Hid (OwnN w1 w2 v2 (Gs (i + 1))) := by rw [NX2.out]; exact O3
              clear O3 O1
              go_wp2
              go_roundg (n - (i + 1))
              case measure => omega
              case rel => exact ⟨i + 1, by omega, by omega, by go_num, O4.out⟩
          · obtain rfl : i = n := by omega
            have hnot : ¬ (i : Int) < (i : Int) := by omega
            have ED : Hid (Ext w1 wr) := O.out.1
            obtain ⟨q, rfl, hq, hqn⟩ := O.out.nums
            have th := TH2.out wr q (E0.out.trans ED.out) hq hqn
            clear O hq hqn TH2 FL2 F02 FN3 BI3
            generalize q.v = qv at *
            go_wp2_with fail
            refine th.mono ?_
            rintro e w3 ⟨m, rfl, hm, hN, E3⟩
            have ED3 : Hid (Ext w1 w3) := ED.out.trans E3
            have of := OF2.out w3 ⟨some ⟨w.heap.size, 0, none⟩, i, List.replicate i false⟩ m rfl (E0.out.trans ED3.out) (N0.out.ext ED3.out) hm hN
            have HM : Hid (m.z = zl (sd y.z k s) ∧ Nums w3 m) := ⟨hm, hN⟩
            clear th OF2 E3 ED hm hN
            simp only [Bd.v, List.length_replicate] at of
            generalize hmv : m.v = mv at *
            have HMV : Hid (m.v = mv) := hmv
            clear hmv
            generalize sc y.z k s = c at *
            go_wp2_with fail
            refine of.mono ?_
            rintro e w4 ⟨rfl, E4⟩
            have EE : Hid (Ext w1 w4) := ED3.out.trans E4
            have MN : Hid (Nums w4 m) := HM.out.2.ext E4
            clear of E4
            by_cases hnr : 2 * c + k ≤ i
            · have hle : 2 * (c : Int) ≤ (i : Int) - (k : Int) := by omega
              have nr := HNE.out hnr
              have FIN : Hid (Ext w w4 ∧ ∃ (m : Nm) (X : Int), (Ending.returned (.tuple #[mv, .bool true]) = .returned (.tuple #[m.v, .bool (X == 0)])) ∧ Nums w4 m ∧ Told y.z k X m.z) := ⟨E0.out.trans EE.out, m, 0, by rw [HMV.out]; rfl, MN.out, TOs.out m.z nr HM.out.1⟩
              clear HNE HNO TOs nr EE MN HM HMV
              go_wp2
              go_ret2
              exact FIN.out
            · have hle : ¬ 2 * (c : Int) ≤ (i : Int) - (k : Int) := by omega
              have AN : Hid (∀ t, t < s + 1 → ¬ near y.z k t) := HNO.out hnr
              clear HNE HNO TOs MN HM HMV
              go_wp2
              go_roundg (M - (s + 1))
              case measure => omega
              case rel => exact ⟨s + 1, by omega, by omega, by go_num, EE.out, AN.out⟩
      · have hpk : (((pop s : Nat) : Int) != (k : Int)) = true := bne_iff_ne.2 (by omega)
        have AN : Hid (∀ t, t < s + 1 → ¬ near y.z k t) := fun t ht => by
          rcases Nat.lt_succ_iff_lt_or_eq.1 ht with h' | rfl
          · exact A.out t h'
          · exact fun h2 => hp h2.1
        have EW : Hid (Ext w1 wr) := E.out
        clear TH1 OF BI SC NE NO FN1 FL1 F01 SZ E A TO
        generalize pop s = ps at *
        go_wp2_with fail
        refine c1.mono ?_
        rintro e w' ⟨rfl, hh⟩
        have hh := hh.symm
        subst hh
        clear c1
        go_wp2
        go_roundg (M - (s + 1))
        case measure => omega
        case rel => exact ⟨s + 1, by omega, by omega, by go_num, EW.out, AN.out⟩
    · obtain rfl : s = M := by omega
      have hnot : ¬ (s : Int) < (s : Int) := by omega
      have FIN : Hid (Ext w wr ∧ ∃ (m : Nm) (X : Int), (Ending.returned (.tuple #[.slice none 0 0, .bool false]) = .returned (.tuple #[m.v, .bool (X == 0)])) ∧ Nums wr m ∧ Told y.z k X m.z) := ⟨E0.out.trans E.out, ⟨none, 0, []⟩, 5, rfl, nil_nums _, TO.out 5 [] (.inr ⟨rfl, rfl, A.out⟩)⟩
      clear TH1 OF BI SC NE NO FN1 FL1 F01 SZ E A TO
      go_wp2
      go_ret2
      exact FIN.out

end Go.Proofs.YtjdipgkdaloclaaDoor
