/-
  huff.Lens: the lengths of the words of a code that costs least.
-/
import Derived.Test.YtakggfogoobdnaaNxt
namespace Go.Proofs.Ytakggfogoobdnaa
open Go.RowKit

set_option maxHeartbeats 4000000 in
theorem lensOf_good (a : Option Addr) (c : Nat) (z : List Int) (w : World) (hz : Nums w ⟨a, c, z⟩) (wsl : List Nat) (hzw : z = wsl.map (fun x : Nat => (x : Int))) (h8 : z.length ≤ 8) (hok : werl z = 0) (hwl' : ∀ x ∈ wsl, x ≤ 1048576) :
    Calls Try.prog 32 #[.slice a z.length c] w fun e w' => ∃ (L0 : Nat) (l : List Nat), e = .returned (.tuple #[.slice (some ⟨L0, 0, none⟩) z.length z.length, .int .i64 0]) ∧ Row w' L0 3 (dv l) ∧ Ext w w' ∧ w.heap.size ≤ L0 ∧ Best (fun i => wsl.getD i 0) z.length l := by
  have HCK := hcheck_any ⟨a, c, z⟩ w hz
  have hwl : ∀ i, i < z.length → wsl.getD i 0 ≤ 1048576 := by
    intro i hi
    have hiw : i < wsl.length := by rw [hzw] at hi; simpa using hi
    rw [List.getD_eq_getElem?_getD, List.getElem?_eq_getElem hiw]
    exact hwl' _ (List.getElem_mem hiw)
  clear hwl'
  simp only [Nm.v, hok] at HCK
  have HZ : Hid (Nums w ⟨a, c, z⟩) := hz
  have HZW : Hid (z = wsl.map (fun x : Nat => (x : Int))) := hzw
  obtain ⟨n, hn⟩ : ∃ n, z.length = n := ⟨_, rfl⟩
  have HN : Hid (z.length = n) := hn
  have hmk := run_make_row' (P := Try.prog) 27 3 (.int .i64 0) 8 Try.underlying27 info3 rfl .i64 .i64 n (by omega) (by omega)
  rw [hn] at h8 HCK hwl ⊢
  clear hn hok hz hzw
  go_enter Try.func32, Try.ntmps32
  go_wp2_with (go_at_call 23; refine HCK.mono ?_; rintro e w1 ⟨rfl, hb⟩)
  obtain ⟨L0, hL0⟩ : ∃ L0, w1.heap.size = L0 := ⟨_, rfl⟩
  have R0 : Hid (Row (w1.alloc (.cells (madeCells #[.int .i64 0] n) 3)) L0 3 (dv (List.replicate n 0))) := by
    have := Row.made w1 3 (.int .i64 0) n
    rw [hL0] at this
    show Row _ L0 3 ((List.replicate n 0).map fun d : Nat => Value.int .i64 (d : Int))
    rw [List.map_replicate]
    exact this
  have E2 : Hid (Ext w (w1.alloc (.cells (madeCells #[.int .i64 0] n) 3))) := hb.alloc _
  have S2 : Hid ((w1.alloc (.cells (madeCells #[.int .i64 0] n) 3)).heap.size = L0 + 1) := by show _ = _; rw [← hL0]; simp
  have SL : Hid (w.heap.size ≤ L0) := by show _ ≤ _; rw [← hL0]; exact hb.size
  rw [hL0]
  clear hmk hb hL0
  generalize (w1.alloc (.cells (madeCells #[.int .i64 0] n) 3)) = W2 at *
  have LV := leaves_any a c z W2 (HZ.out.ext E2.out) (by rw [HN.out]; exact h8)
  rw [HN.out, S2.out] at LV
  refine LV.mono ?_
  rintro e W3 ⟨R, rfl, hR1, hR2, hR3, hR4⟩
  have I0 : Hid (Inv w L0 n (fun i => wsl.getD i 0) W3 (.slice (some ⟨L0 + 1, 0, none⟩) n n) R) := inv_start w W2 W3 L0 n z wsl HZW.out HN.out SL.out E2.out R0.out R hR1 hR2 hR3 hR4 h8
  have NR : Hid (R.length = n) := hR1
  have WL : Hid (∀ i, i < n → wsl.getD i 0 ≤ 1048576) := hwl
  clear LV R0 E2 S2 hR1 hR2 hR3 hR4 HZ HZW hwl HCK
  go_wp2
  go_loopg [6, 7, 9] n (fun gg s6 _ _ wr => ∃ v : Value, v = s6 ∧ Aside (∃ R, R.length ≤ gg + 1 ∧ Inv w L0 n (fun i => wsl.getD i 0) wr v R))
  case atStart => exact ⟨_, rfl, R, by rw [NR.out]; omega, I0.out⟩
  case round =>
    obtain ⟨v, rfl, A⟩ := hrel
    obtain ⟨R, hRg, hI⟩ := A.out
    obtain ⟨B, hB0, hBL, pre, post, cap, rfl, hrow, hc1, hc2, hc3⟩ := hI.tv
    obtain ⟨m, hm⟩ : ∃ m, R.length = m := ⟨_, rfl⟩
    have HM : Hid (R.length = m) := hm
    obtain ⟨o, ho⟩ : ∃ o, pre.length = o := ⟨_, rfl⟩
    have HO : Hid (pre.length = o) := ho
    by_cases h1 : 1 < m
    · have h1z : (1 : Int) < (m : Int) := by omega
      have hsm : m ≤ n := by
        have := hI.forest.all.length_eq
        have hge : (R.map (·.S)).length ≤ (R.map (·.S)).flatten.length := by
          have : ∀ F : List (List (Nat × Nat)), (∀ S ∈ F, Tree S) → F.length ≤ F.flatten.length := by
            intro F
            induction F with
            | nil => intro _; simp
            | cons S F ih =>
              intro h
              have h1 := (h S (by simp)).pos
              have h2 := ih (fun T hT => h T (by simp [hT]))
              simp at h2 ⊢
              omega
          exact this _ hI.forest.tree
        simp only [List.length_map, List.length_range] at this hge
        omega
      have SRT := sortStable_any w wr B cap o R pre post hB0 hI.ext ho hrow (by omega)
      rw [hm] at SRT
      have INV : Hid (Inv w L0 n (fun i => wsl.getD i 0) wr (.slice (some ⟨B, pre.length, none⟩) R.length cap) R) := hI
      have ROW : Hid (Row wr B 66 (pre ++ fl R ++ post)) := hrow
      have CAP : Hid (m ≤ cap ∧ cap * 2 ≤ m * 2 + post.length ∧ cap ≤ maxLen) := by rw [← hm]; exact ⟨hc1, hc2, hc3⟩
      have hcm : m ≤ cap := by omega
      have hcx : cap ≤ 9223372036854775807 := by unfold maxLen at hc3; omega
      rw [hm, ho]
      rw [hm] at hRg
      clear A hI hrow hc1 hc2 hc3 ho hm
      go_wp2_with fail
      refine SRT.mono ?_
      rintro e w1 ⟨rfl, R', hr1, hp, hs, he, hk⟩
      clear SRT
      obtain ⟨ok1, fo1, l, hl1, hl2, hl3⟩ := INV.out.sorted hBL ROW.out hp hk
      obtain ⟨t0, t1, R2, rfl⟩ : ∃ t0 t1 R2, R' = t0 :: t1 :: R2 := by
        have := hp.length_eq
        rw [HM.out] at this
        match R', this with
        | [], h => simp at h; omega
        | [_], h => simp at h; omega
        | t0 :: t1 :: R2, _ => exact ⟨t0, t1, R2, rfl⟩
      have C0 := Row.tree (p := []) hr1 o HO.out
      have C1 := Row.tree (p := [t0]) hr1 o HO.out
      obtain ⟨k0, k0x⟩ := ok1 t0 (by simp)
      obtain ⟨k1, k1x⟩ := ok1 t1 (by simp)
      have lt0 := fo1.light (n := n) h8 WL.out (S := t0.S) (by simp)
      have lt1 := fo1.light (n := n) h8 WL.out (S := t1.S) (by simp)
      have sm0 := fo1.small (S := t0.S) (by simp)
      have sm1 := fo1.small (S := t1.S) (by simp)
      have ps0 := (fo1.tree t0.S (by simp)).pos
      have JN : Hid (∀ W, Ext w1 W → Calls Try.prog 44 #[.agg #[.int .i64 t0.x, .slice (some ⟨t0.g, 0, none⟩) t0.n t0.c], .agg #[.int .i64 t1.x, .slice (some ⟨t1.g, 0, none⟩) t1.n t1.c]] W fun e w' => (∃ g c, e = .returned (.agg #[.int .i64 (t0.x + t1.x), .slice (some ⟨g, 0, none⟩) (t0.n + t1.n) c]) ∧ OwnN W w' (.slice (some ⟨g, 0, none⟩) (t0.n + t1.n) c) (syms (up (t0.S ++ t1.S))))) := by
        intro W hW
        have := join_any t0.x t1.x ⟨some ⟨t0.g, 0, none⟩, t0.c, syms t0.S⟩ ⟨some ⟨t1.g, 0, none⟩, t1.c, syms t1.S⟩ W ((k0.ext hW).nums) ((k1.ext hW).nums) (by simp [syms]; exact ps0) (by simp [syms]; omega) (by omega) (by omega) (by omega) (by omega)
        have e0 : (syms t0.S).length = t0.n := by simp [syms, k0.2.1]
        have e1 : (syms t1.S).length = t1.n := by simp [syms, k1.2.1]
        simp only [Nm.v] at this
        rw [e0, e1] at this
        rw [syms_up]
        exact this
      have LS : Hid (L0 + 1 ≤ w1.heap.size) := by show _ ≤ _; have := hl2.lt; omega
      have OK1 : Hid (∀ t ∈ t0 :: t1 :: R2, TrOk (L0 + 1) w1 t ∧ t.x = (ws (fun i => wsl.getD i 0) t.S : Int)) := ok1
      have FO1 : Hid (Forest (fun i => wsl.getD i 0) n ((t0 :: t1 :: R2).map (·.S))) := fo1
      have LN1 : Hid (l.length = n ∧ Row w1 L0 3 (dv l) ∧ Dep l ((t0 :: t1 :: R2).map (·.S))) := ⟨hl1, hl2, hl3⟩
      have RW1 : Hid (Row w1 B 66 (pre ++ fl (t0 :: t1 :: R2) ++ post)) := hr1
      have SO1 : Hid ((t0 :: t1 :: R2).Pairwise (fun a b => a.x ≤ b.x)) := hs
      have E1 : Hid (Ext w w1) := he
      have PL : Hid ((t0 :: t1 :: R2).length = m) := hp.length_eq.trans HM.out
      clear ok1 fo1 hl1 hl2 hl3 hr1 hs he hp hk INV ROW k0 k1 k0x k1x lt0 lt1 sm0 sm1 ps0 HM
      go_upto_region 8 with fail
      go_cut [7] from 25 to 31 (fun s7 wx => ∃ J g c, s7 = .pointer (some ⟨J, 0, none⟩) ∧ Aside (Joined L0 w1 wx J t0 t1 g c))
      case first =>
        obtain ⟨x0, g0, n0, d0, S0⟩ := t0
        obtain ⟨x1, g1, n1, d1, S1⟩ := t1
        simp only [Tr.v, List.length_nil, List.length_singleton, Nat.zero_mul, Nat.add_zero, Nat.one_mul] at C0 C1
        obtain ⟨ι, _, fm, hg, hgo⟩ := ext_fam w1
        have q0 : ∀ i, (fm i).cell? ⟨B, o, none⟩ = some (.int .i64 x0) := fun i => (hg i).cell C0.1
        have q1 : ∀ i, (fm i).cell? ⟨B, o + 1, none⟩ = some (.slice (some ⟨g0, 0, none⟩) n0 d0) := fun i => (hg i).cell C0.2
        have q2 : ∀ i, (fm i).cell? ⟨B, o + 2, none⟩ = some (.int .i64 x1) := fun i => (hg i).cell C1.1
        have q3 : ∀ i, (fm i).cell? ⟨B, o + 2 + 1, none⟩ = some (.slice (some ⟨g1, 0, none⟩) n1 d1) := fun i => (hg i).cell C1.2
        have HGO : Hid (∀ W, Ext w1 W → ∃ i, W = fm i) := hgo
        clear hg hgo C0 C1
        refine wp_region_mix (fun W => ∃ i, W = fm i) 9 (by rfl) (by kernel_rfl) ?_
        refine wpMix_take (v := .slice (some ⟨B, o, none⟩) m cap) 0 (by rfl) (by kernel_rfl) ⟨by rfl, ?_⟩ ?_
        · rintro _ ⟨i, rfl⟩
          go_simp
        refine wpMix_take (v := .pointer (some ⟨B, o, none⟩)) 1 (by rfl) (by kernel_rfl) ⟨by rfl, ?_⟩ ?_
        · rintro _ ⟨i, rfl⟩
          go_simp
          intro h; omega
        refine wpMix_take (v := .agg #[.int .i64 x0, .slice (some ⟨g0, 0, none⟩) n0 d0]) 2 (by rfl) (by kernel_rfl) ⟨by rfl, ?_⟩ ?_
        · rintro _ ⟨i, rfl⟩
          go_simp
        refine wpMix_take (v := .slice (some ⟨B, o, none⟩) m cap) 3 (by rfl) (by kernel_rfl) ⟨by rfl, ?_⟩ ?_
        · rintro _ ⟨i, rfl⟩
          go_simp
        refine wpMix_take (v := .pointer (some ⟨B, o + 2, none⟩)) 4 (by rfl) (by kernel_rfl) ⟨by rfl, ?_⟩ ?_
        · rintro _ ⟨i, rfl⟩
          go_simp
        refine wpMix_take (v := .agg #[.int .i64 x1, .slice (some ⟨g1, 0, none⟩) n1 d1]) 5 (by rfl) (by kernel_rfl) ⟨by rfl, ?_⟩ ?_
        · rintro _ ⟨i, rfl⟩
          go_simp
        have ED : Hid (Ext w1 w1.drew) := ext_drew w1
        simp only at JN
        generalize w1.drew = W1 at *
        refine wpMix_two 6 7 (by kernel_rfl) (HGO.out _ ED.out) ?_ ?_
        · refine mOp_call (f := 44) (args := #[.agg #[.int .i64 x0, .slice (some ⟨g0, 0, none⟩) n0 d0], .agg #[.int .i64 x1, .slice (some ⟨g1, 0, none⟩) n1 d1]]) (w' := W1) (by rfl) (by rfl) ?_ ?_
          · go_simp
          refine (JN.out _ ED.out).mono ?_
          rintro e w2 ⟨g, c', rfl, hv⟩
          refine ⟨_, rfl, ?_⟩
          have HV : Hid (OwnN W1 w2 (.slice (some ⟨g, 0, none⟩) (n0 + n1) c') (syms (up (S0 ++ S1)))) := hv
          clear hv
          obtain ⟨L, hL⟩ : ∃ L, n0 + n1 = L := ⟨_, rfl⟩
          rw [hL] at HV ⊢
          have HL : Hid (n0 + n1 = L) := hL
          clear hL
          refine wpMix_only 7 (by kernel_rfl) (HGO.out _ (ED.out.trans HV.out.1)) ?_
          refine mOp_value (v := .pointer (some ⟨w2.heap.size, 0, none⟩)) (w' := w2.alloc (.cells #[.int .i64 0, .slice none 0 0] 66)) (by rfl) (by rfl) ?_ ?_
          · go_simp
          have R3 : Row (w2.alloc (.cells #[.int .i64 0, .slice none 0 0] 66)) w2.heap.size 66 [.int .i64 0, .slice none 0 0] := heap_alloc_new w2 _
          have JX : Hid (Joined L0 w1 (((w2.alloc (.cells #[.int .i64 0, .slice none 0 0] 66)).setCell ⟨w2.heap.size, 0, none⟩ (.int .i64 (x0 + x1))).setCell ⟨w2.heap.size, 0 + 1, none⟩ (.slice (some ⟨g, 0, none⟩) L c')) w2.heap.size ⟨x0, g0, n0, d0, S0⟩ ⟨x1, g1, n1, d1, S1⟩ g c') :=
            joined_mk (t0 := ⟨x0, g0, n0, d0, S0⟩) (t1 := ⟨x1, g1, n1, d1, S1⟩) (L := L) (g := g) (c := c') (((ED.out.trans HV.out.1)).alloc _) ((ED.out.trans HV.out.1).size) R3 LS.out HL.out (HV.out.ext ((Ext.refl w2).alloc _)) ED.out.size
          refine wpMix_last 8 (by kernel_rfl) (by kernel_rfl) (by rfl) (by rfl) (HGO.out _ ((ED.out.trans HV.out.1).alloc _)) (store46 _ _ (.tmp 7) (.tmp 31) (by rfl) _ w2.heap.size 0 (by simp [Act.eval, Act.put]) (x0 + x1) (some ⟨g, 0, none⟩) L c' (by simp [Act.eval, Act.put]) _ _ (R3.cell 0 (by simp)) (R3.cell 1 (by simp)) R3.fr) (HGO.out _ JX.out.ext) ?_
          generalize (((w2.alloc (.cells #[.int .i64 0, .slice none 0 0] 66)).setCell ⟨w2.heap.size, 0, none⟩ (.int .i64 (x0 + x1))).setCell ⟨w2.heap.size, 0 + 1, none⟩ (.slice (some ⟨g, 0, none⟩) L c')) = W4 at JX ⊢
          simp only [Act.put, List.setIfInBounds_toArray, List.set_cons_zero, List.set_cons_succ]
          go_wp2_with fail
          go_meet
          case rel => exact ⟨_, g, c', rfl, JX.out⟩
        · refine mOp_value (v := .pointer (some ⟨W1.heap.size, 0, none⟩)) (w' := W1.alloc (.cells #[.int .i64 0, .slice none 0 0] 66)) (by rfl) (by rfl) ?_ ?_
          · go_simp
          have R2' : Hid (Row (W1.alloc (.cells #[.int .i64 0, .slice none 0 0] 66)) W1.heap.size 66 [.int .i64 0, .slice none 0 0]) := heap_alloc_new W1 _
          have EA : Hid (Ext w1 (W1.alloc (.cells #[.int .i64 0, .slice none 0 0] 66))) := ED.out.alloc _
          have JS : Hid (w1.heap.size ≤ W1.heap.size) := ED.out.size
          obtain ⟨J, hJ⟩ : ∃ J, W1.heap.size = J := ⟨_, rfl⟩
          rw [hJ] at R2' JS ⊢
          clear hJ
          generalize (W1.alloc (.cells #[.int .i64 0, .slice none 0 0] 66)) = W2 at *
          refine wpMix_only 6 (by kernel_rfl) (HGO.out _ EA.out) ?_
          refine mOp_call (f := 44) (args := #[.agg #[.int .i64 x0, .slice (some ⟨g0, 0, none⟩) n0 d0], .agg #[.int .i64 x1, .slice (some ⟨g1, 0, none⟩) n1 d1]]) (w' := W2) (by rfl) (by rfl) ?_ ?_
          · go_simp
          refine (JN.out _ EA.out).mono ?_
          rintro e w2 ⟨g, c', rfl, hv⟩
          refine ⟨_, rfl, ?_⟩
          have HV : Hid (OwnN W2 w2 (.slice (some ⟨g, 0, none⟩) (n0 + n1) c') (syms (up (S0 ++ S1)))) := hv
          clear hv
          obtain ⟨L, hL⟩ : ∃ L, n0 + n1 = L := ⟨_, rfl⟩
          rw [hL] at HV ⊢
          have HL : Hid (n0 + n1 = L) := hL
          clear hL
          have R3 : Row w2 J 66 [.int .i64 0, .slice none 0 0] := R2'.out.ext HV.out.1
          have JX : Hid (Joined L0 w1 ((w2.setCell ⟨J, 0, none⟩ (.int .i64 (x0 + x1))).setCell ⟨J, 0 + 1, none⟩ (.slice (some ⟨g, 0, none⟩) L c')) J ⟨x0, g0, n0, d0, S0⟩ ⟨x1, g1, n1, d1, S1⟩ g c') :=
            joined_mk (t0 := ⟨x0, g0, n0, d0, S0⟩) (t1 := ⟨x1, g1, n1, d1, S1⟩) (L := L) (g := g) (c := c') (EA.out.trans HV.out.1) JS.out R3 LS.out HL.out HV.out EA.out.size
          refine wpMix_last 8 (by kernel_rfl) (by kernel_rfl) (by rfl) (by rfl) (HGO.out _ (EA.out.trans HV.out.1)) (store46 _ _ (.tmp 7) (.tmp 31) (by rfl) _ J 0 (by simp [Act.eval, Act.put]) (x0 + x1) (some ⟨g, 0, none⟩) L c' (by simp [Act.eval, Act.put]) _ _ (R3.cell 0 (by simp)) (R3.cell 1 (by simp)) R3.fr) (HGO.out _ JX.out.ext) ?_
          generalize ((w2.setCell ⟨J, 0, none⟩ (.int .i64 (x0 + x1))).setCell ⟨J, 0 + 1, none⟩ (.slice (some ⟨g, 0, none⟩) L c')) = W4 at JX ⊢
          simp only [Act.put, List.setIfInBounds_toArray, List.set_cons_zero, List.set_cons_succ]
          go_wp2_with fail
          go_meet
          case rel => exact ⟨_, g, c', rfl, JX.out⟩
      case rest =>
        obtain ⟨J, g, c', rfl, JO⟩ := hcut
        have jr := JO.out.row
        have j0 := jr.cell 0 (by simp)
        have j1 := jr.cell 1 (by simp)
        simp only [List.getElem_cons_zero, List.getElem_cons_succ] at j0 j1
        obtain ⟨L, hL⟩ : ∃ L, t0.n + t1.n = L := ⟨_, rfl⟩
        have HL : Hid (t0.n + t1.n = L) := hL
        have LS2 : Hid (((t0.S ++ t1.S).map (·.1)).length = L) := by
          show _ = _
          have e0 := (OK1.out t0 (by simp)).1.2.1
          have e1 := (OK1.out t1 (by simp)).1.2.1
          simp only [List.length_map, List.length_append]
          omega
        have hLn : L ≤ 16 := by
          have h4 := FO1.out.small (S := t0.S) (by simp)
          have h5 := FO1.out.small (S := t1.S) (by simp)
          have := LS2.out
          simp only [List.length_map, List.length_append] at this
          omega
        rw [hL] at j1
        have RWC : Hid (Row wc L0 3 (dv l)) := LN1.out.2.1.ext JO.out.ext
        have EC : Hid (Ext w wc) := E1.out.trans JO.out.ext
        have hcc : L ≤ c' ∧ c' ≤ maxLen := by
          have := JO.out.ok
          obtain ⟨_, _, h3, h4, _⟩ := this
          simp only at h3 h4
          omega
        obtain ⟨hc1, hc2⟩ := hcc
        unfold maxLen at hc2
        clear jr hL JN C0 C1
        go_wp2
        go_loopg [9, 35] L (fun gg _ s35 wi => ∃ k : Nat, k ≤ L ∧ L - k ≤ gg ∧ s35 = .int .i64 k ∧ Aside (Row wi L0 3 (dv (bmp l (((t0.S ++ t1.S).map (·.1)).take k))) ∧ KB L0 wc wi ∧ Ext w wi))
        case atStart => exact ⟨0, by omega, by omega, rfl, RWC.out, KB.refl _ _, EC.out⟩
        case round =>
          obtain ⟨k, hk, hgg, rfl, A⟩ := hrel
          by_cases hlt : k < L
          · have hltz : (k : Int) < (L : Int) := by omega
            have hks : k < ((t0.S ++ t1.S).map (·.1)).length := by rw [LS2.out]; exact hlt
            obtain ⟨b1, b2⟩ := bump_small (S := t0.S) (T := t1.S) (F := R2.map (fun t : Tr => t.S)) FO1.out LN1.out.1 LN1.out.2.2 k hks
            have hnx := bmp_take l ((t0.S ++ t1.S).map (·.1)) k hks
            have sc : wr.cell? ⟨g, k, none⟩ = some (.int .i64 ((((t0.S ++ t1.S).map (·.1))[k] : Nat) : Int)) := by
              have ok0 := JO.out.ok
              have ok1 := ok0.keep (A.out.2.1.2 _ ok0.lt (by have := ok0.1; simp only at this ⊢; omega))
              obtain ⟨_, _, _, b, o', n4, n5⟩ := ok1.nums
              simp only at n4 n5
              have hsl : (syms (up (t0.S ++ t1.S))).length = L := by
                have := LS2.out
                simpa [syms, up] using this
              have hbo := n4 (by omega)
              simp only [Option.some.injEq, Addr.mk.injEq] at hbo
              obtain ⟨rfl, rfl, _⟩ := hbo
              have := n5 k (by omega)
              rw [Nat.zero_add] at this
              rw [this]
              have e : syms (up (t0.S ++ t1.S)) = ((t0.S ++ t1.S).map (·.1)).map (fun x : Nat => (x : Int)) := by simp [syms, up, Function.comp_def]
              rw [e, List.getD_eq_getElem?_getD, List.getElem?_map, List.getElem?_eq_getElem hks]
              rfl
            generalize ((t0.S ++ t1.S).map (·.1))[k] = s at b1 b2 hnx sc
            have lc := A.out.1.len s (by rw [bmp_len, LN1.out.1]; exact b1)
            have fz := A.out.1.fr
            generalize hd : (bmp l (((t0.S ++ t1.S).map (·.1)).take k)).getD s 0 = d at b2 hnx lc
            have b1z : (s : Int) < (n : Int) := by omega
            have NX : Hid (Row (wr.setCell ⟨L0, s, none⟩ (.int .i64 ((d : Int) + 1))) L0 3 (dv (bmp l (((t0.S ++ t1.S).map (·.1)).take (k + 1)))) ∧ KB L0 wc (wr.setCell ⟨L0, s, none⟩ (.int .i64 ((d : Int) + 1))) ∧ Ext w (wr.setCell ⟨L0, s, none⟩ (.int .i64 ((d : Int) + 1)))) := by
              refine ⟨?_, A.out.2.1.setCell _, A.out.2.2.setCell SL.out _⟩
              have := A.out.1.set s (.int .i64 ((d + 1 : Nat) : Int))
              rw [dv_set, ← hnx] at this
              simpa using this
            clear A hd hnx b1 hks
            go_wp2
            go_roundg (L - (k + 1))
            case measure => omega
            case rel => exact ⟨k + 1, by omega, by omega, by go_num, NX.out⟩
          · have hkL : k = L := by omega
            subst hkL
            obtain ⟨wo, hwo⟩ : ∃ wo, wo = wr := ⟨_, rfl⟩
            have RWI : Hid (Row wr L0 3 (dv (bmp l ((t0.S ++ t1.S).map (·.1))))) := by
              have := A.out.1
              rw [← LS2.out, List.take_length] at this
              exact this
            have KBI : Hid (KB L0 wc wr) := A.out.2.1
            have EI : Hid (Ext w wr) := A.out.2.2
            have hJs := JO.out.new
            have hBlt := RW1.out.lt
            have RBI : Hid (Row wr B 66 (pre ++ fl (t0 :: t1 :: R2) ++ post)) := by
              have h1 := RW1.out.ext JO.out.ext
              unfold Row at h1 ⊢
              show wr.heap[B]? = _
              rw [KBI.out.2 _ (lt_of_block h1) (by omega)]
              exact h1
            have RJI : Hid (Row wr J 66 [.int .i64 (t0.x + t1.x), .slice (some ⟨g, 0, none⟩) k c']) := by
              have h1 := JO.out.row
              rw [HL.out] at h1
              unfold Row at h1 ⊢
              show wr.heap[J]? = _
              rw [KBI.out.2 _ (lt_of_block h1) (by have := LS.out; omega)]
              exact h1
            have hcap := CAP.out
            have TR := Tv.rest (t0 := t0) (t1 := t1) (R2 := R2) HO.out RBI.out PL.out hcm hcap.2.1 hcap.2.2
            clear A hcap
            obtain ⟨ι, _, fm, hg, hgo⟩ := kb_fam B wr
            have q0 : ∀ i, (fm i).cell? ⟨J, 0, none⟩ = some (.int .i64 (t0.x + t1.x)) := fun i => by
              have h1 := RJI.out
              have : Row (fm i) J 66 [.int .i64 (t0.x + t1.x), .slice (some ⟨g, 0, none⟩) k c'] := by
                unfold Row at h1 ⊢
                rw [(hg i).2 _ (lt_of_block h1) (by omega)]
                exact h1
              exact this.cell 0 (by simp)
            have q1 : ∀ i, (fm i).cell? ⟨J, 1, none⟩ = some (.slice (some ⟨g, 0, none⟩) k c') := fun i => by
              have h1 := RJI.out
              have : Row (fm i) J 66 [.int .i64 (t0.x + t1.x), .slice (some ⟨g, 0, none⟩) k c'] := by
                unfold Row at h1 ⊢
                rw [(hg i).2 _ (lt_of_block h1) (by omega)]
                exact h1
              exact this.cell 1 (by simp)
            have HGO : Hid (∀ W, KB B wr W → ∃ i, W = fm i) := hgo
            clear hg hgo
            obtain ⟨sv, hsv, TVS⟩ : ∃ sv : Value, (if cap = 2 then sv = .slice (some ⟨B, o, none⟩) 0 0 else sv = .slice (some ⟨B, o + 4, none⟩) (m - 2) (cap - 2)) ∧ Hid (Tv wr B sv R2) := by
              by_cases hc : cap = 2
              · exact ⟨_, by rw [if_pos hc], (TR.1 hc).1⟩
              · exact ⟨_, by rw [if_neg hc], TR.2 hc⟩
            clear TR
            go_upto_region 14 with fail
            refine wp_region_mix (fun W => ∃ i, W = fm i) 6 (by rfl) (by kernel_rfl) ?_
            refine wpMix_take (v := .slice (some ⟨B, o, none⟩) m cap) 0 (by rfl) (by kernel_rfl) ⟨by rfl, ?_⟩ ?_
            · rintro _ ⟨i, rfl⟩
              go_simp
            refine wpMix_take (v := sv) 1 (by rfl) (by kernel_rfl) ⟨by rfl, ?_⟩ ?_
            · rintro _ ⟨i, rfl⟩
              by_cases hc : cap = 2
              · rw [if_pos hc] at hsv
                subst hsv
                have hm2 : m = 2 := by omega
                subst hm2
                subst hc
                go_simp
              · rw [if_neg hc] at hsv
                subst hsv
                have hc2z : ¬ (cap : Int) = 2 := by omega
                go_simp
                intro h; omega
            refine wpMix_take (v := .agg #[.int .i64 (t0.x + t1.x), .slice (some ⟨g, 0, none⟩) k c']) 2 (by rfl) (by kernel_rfl) ⟨by rfl, ?_⟩ ?_
            · rintro _ ⟨i, rfl⟩
              go_simp
            clear q0 q1 hsv
            have ED : Hid (Ext wr wr.drew) := ext_drew wr
            have BSZ : Hid (B < wr.heap.size) := RBI.out.lt
            generalize wr.drew = W1 at *
            refine wpMix_only 3 (by kernel_rfl) (HGO.out _ (KB.of_ext ED.out)) ?_
            refine mOp_value (v := .slice (some ⟨W1.heap.size, 0, none⟩) 1 1) (w' := W1.alloc (.cells #[.int .i64 (t0.x + t1.x), .slice (some ⟨g, 0, none⟩) k c'] 66)) (by rfl) (by rfl) ?_ ?_
            · go_simp
            have RK : Hid (Row (W1.alloc (.cells #[.int .i64 (t0.x + t1.x), .slice (some ⟨g, 0, none⟩) k c'] 66)) W1.heap.size 66 [.int .i64 (t0.x + t1.x), .slice (some ⟨g, 0, none⟩) k c']) := heap_alloc_new W1 _
            have EK : Hid (Ext wr (W1.alloc (.cells #[.int .i64 (t0.x + t1.x), .slice (some ⟨g, 0, none⟩) k c'] 66))) := ED.out.alloc _
            obtain ⟨K, hK⟩ : ∃ K, W1.heap.size = K := ⟨_, rfl⟩
            rw [hK] at RK ⊢
            clear hK
            generalize (W1.alloc (.cells #[.int .i64 (t0.x + t1.x), .slice (some ⟨g, 0, none⟩) k c'] 66)) = W2 at *
            obtain ⟨v', W', B', hap, htv, hkb, hB', hex⟩ := append_tree W2 B sv R2 ⟨t0.x + t1.x, g, k, c', up (t0.S ++ t1.S)⟩ K (TVS.out.keep (EK.out.block _ BSZ.out)) RK.out (by have := PL.out; simp only [List.length_cons] at this; omega) 62
            have KF : Hid (KB B wr W') := (KB.of_ext EK.out).trans hkb
            have IN : Hid (Inv w L0 n (fun i => wsl.getD i 0) W' v' (R2 ++ [⟨t0.x + t1.x, g, k, c', up (t0.S ++ t1.S)⟩])) := by
              have hL := HL.out
              subst hL
              refine inv_next JO.out OK1.out FO1.out LN1.out.1 LN1.out.2.2 SO1.out hB0 hBL RW1.out RWI.out KBI.out KF.out htv ?_ (hex w (EI.out.trans EK.out) hB0)
              rcases hB' with h | h
              · exact .inl h
              · right; rw [h]; exact EK.out.size
            have HAP : Hid ((Builtin.append_ #[62, 62] 62 #[sv, .slice (some ⟨K, 0, none⟩) 1 1]).run Try.prog W2 = .ok v' W') := hap
            clear hap htv hkb hB' hex
            refine wpMix_only 4 (by kernel_rfl) (HGO.out _ (KB.of_ext EK.out)) ?_
            refine mOp_value (v := v') (w' := W') (by rfl) (by rfl) (exec_append _ _ (.tmp 47) (.tmp 49) 62 (by rfl) sv (.slice (some ⟨K, 0, none⟩) 1 1) v' W2 W' (by simp [Act.eval, Act.put]) (by simp [Act.eval, Act.put]) HAP.out) ?_
            refine wpMix_lastv (v := v') (w' := W') 5 (by kernel_rfl) (by kernel_rfl) (by rfl) (by rfl) (HGO.out _ KF.out) ?_ (HGO.out _ KF.out) ?_
            · go_simp
            simp only [Act.put, List.setIfInBounds_toArray, List.set_cons_zero, List.set_cons_succ]
            go_wp2
            go_roundg (m - 2)
            case measure => omega
            case rel => exact ⟨_, rfl, _, by have := PL.out; simp only [List.length_cons, List.length_append, List.length_nil] at this ⊢; omega, IN.out⟩
    · have FIN : Hid (∃ l, Row wr L0 3 (dv l) ∧ Ext w wr ∧ Best (fun i => wsl.getD i 0) n l) := by
        obtain ⟨l, h1', h2', h3'⟩ := hI.lens
        exact ⟨l, h2', hI.ext, forest_best hI.forest h1' h3' (by simp only [List.length_map]; omega)⟩
      have h1z : ¬ (1 : Int) < (m : Int) := by omega
      rw [hm, ho]
      clear A hI hrow hm ho
      go_wp2
      go_ret2
      obtain ⟨l, f1, f2, f3⟩ := FIN.out
      exact ⟨L0, rfl, l, f1, f2, SL.out, f3⟩

end Go.Proofs.Ytakggfogoobdnaa
