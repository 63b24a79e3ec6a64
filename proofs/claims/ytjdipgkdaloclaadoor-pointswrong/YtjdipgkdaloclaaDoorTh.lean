/-
  points.through: the numbers whose sums at so many places are what lies there.
-/
import Derived.Test.YtjdipgkdaloclaaDoorAw
import Derived.Test.YtjdipgkdaloclaaDoorCc
import Derived.Test.YtjdipgkdaloclaaDoorSv
import Derived.Test.YtjdipgkdaloclaaDoorIv
import Derived.Deep.RegionWith
import Derived.Deep.CutRange
import Derived.Deep.DeepCutAuto
namespace Go.Proofs.YtjdipgkdaloclaaDoor
open Go.RowKit

/-- What lies in memory where numbers are put through places. -/
structure Thr (L P : Nat → Nat) (K : Nat) (y pm : Nm) : Prop where
  plc : Plc L P K
  pos : 1 ≤ K
  le : K ≤ 9
  len : ∀ i, i < K → P i < y.z.length
  val : ∀ i, i < K → y.z.getD (P i) 0 = ((L (P i) : Nat) : Int)
  pls : pm.z = zl (nl P K)

theorem getF (l : List Nat) (n : Nat) (h : l.length = n) : nl (fun j => l.getD j 0) n = l := by rw [← h]; exact nl_self l

set_option maxHeartbeats 1000000 in
theorem through_any (L P : Nat → Nat) (K : Nat) (y pm : Nm) (T : Thr L P K y pm) (w : World) (hy : Nums w y) (hp : Nums w pm) :
    Calls Tryd.prog 15 #[y.v, pm.v] w fun e w' => e = .returned (.slice (some ⟨w.heap.size, 0, none⟩) K K) ∧ Ext w w' ∧ Row w' w.heap.size 3 (nf (nd L P K) K) := by
  obtain ⟨hplc, hpos, hle, hlen, hval, hpls⟩ := T
  have plen : pm.z.length = K := by rw [hpls]; simp
  have HL : Hid (∀ k, k < K → P k < y.z.length) := hlen
  obtain ⟨h1, h2, _, b, o, h3, h4⟩ := hy
  obtain ⟨k1, k2, _, pb, po, k3, k4⟩ := hp
  rw [plen] at k1 k3 k4
  have LC : Hid (∀ k, k < K → w.cell? ⟨b, o + P k, none⟩ = some (.int .i64 (L (P k) : Nat))) := fun k hk => by rw [h4 _ (hlen k hk), hval k hk]
  have PC : Hid (∀ k, k < K → w.cell? ⟨pb, po + k, none⟩ = some (.int .i64 (P k : Nat))) := fun k hk => by rw [k4 k hk, hpls, zl_at, nl_at _ hk]
  have LA := h3 (by have := hlen 0 (by omega); omega)
  have PA := k3 (by omega)
  have low : Hid (∀ k, k < K → P k < 15) := hplc.low
  have lesser : ∀ k, k ≤ K → Plc L P k := fun k hk => hplc.less hk
  have hz : ∀ k, k < K → ∀ a ∈ az P k, a < 16 := fun k hk => az_lt (fun i hi => hplc.low i (by omega))
  -- the sum of the numbers, the sum of what is put to them
  have SD : Hid (∀ (k : Nat) W, k < K → Row W w.heap.size 3 (nf (nd L P k) K) → Calls Tryd.prog 26 #[.slice (some ⟨w.heap.size, 0, none⟩) K K, .int .i64 ((P k : Int) + 1)] W fun e w' => e = .returned (.int .i64 (ev (P k + 1) (nl (nd L P k) k) : Nat)) ∧ Ext W w') := fun k W hk R => by
    have hl := low.out k hk
    have n1 := R.numsF (by unfold maxLen; omega)
    have := SumAt_any (nl (nd L P k) K) (nl_lt (fun i _ => nd_lt (lesser k (by omega)) i)) (by rw [nl_len]; omega) (P k + 1) (by omega) _ rfl W n1
    rw [nd_long (lesser k (by omega)) (by omega) (by omega)] at this
    simp only [Nm.v, zl_len, nl_len] at this
    exact this
  have SA : Hid (∀ (k A : Nat) W, k < K → Row W A 3 (nf (fun j => (az P k).getD j 0) (k + 1)) → Calls Tryd.prog 26 #[.slice (some ⟨A, 0, none⟩) (k + 1) (k + 1), .int .i64 ((P k : Int) + 1)] W fun e w' => e = .returned (.int .i64 (ev (P k + 1) (az P k) : Nat)) ∧ Ext W w') := fun k A W hk R => by
    have hl := low.out k hk
    have n1 := R.numsL (by unfold maxLen; omega) (az P k) (az_len P k) (fun i _ => rfl)
    have := SumAt_any (az P k) (hz k hk) (by rw [az_len]; omega) (P k + 1) (by omega) _ rfl W n1
    simp only [Nm.v, zl_len, az_len] at this
    exact this
  have IV : Hid (∀ (k : Nat) W, k < K → Calls Tryd.prog 28 #[.int .i64 (ev (P k + 1) (az P k) : Nat)] W fun e w' => e = .returned (.int .i64 (iv (ev (P k + 1) (az P k)) : Nat)) ∧ w' = W) := fun k W hk => by
    have hl := low.out k hk
    exact Inverse_good _ (ev_lt (by omega) (hz k hk)) (az_some hl (fun i hi => low.out i (by omega)) (fun i hi e => by have := hplc.one i k (by omega) hk e; omega)) W
  have lD : ∀ k, k < K → ev (P k + 1) (nl (nd L P k) k) < 16 := fun k hk => ev_lt (by have := low.out k hk; omega) (nl_lt (fun i _ => nd_lt (lesser k (by omega)) i))
  have XL : Hid (∀ k, k < K → bits BinOp.xor IntKind.i64 (L (P k) : Int) (ev (P k + 1) (nl (nd L P k) k) : Nat) = ((L (P k) ^^^ ev (P k + 1) (nl (nd L P k) k) : Nat) : Int)) := fun k hk => xor_at (by have := hplc.val k hk; omega) (by have := lD k hk; omega)
  have PR : Hid (∀ (k : Nat) W, k < K → Calls Tryd.prog 27 #[.int .i64 (L (P k) ^^^ ev (P k + 1) (nl (nd L P k) k) : Nat), .int .i64 (iv (ev (P k + 1) (az P k)) : Nat)] W fun e w' => e = .returned (.int .i64 (mn L P k : Nat)) ∧ w' = W) := fun k W hk =>
    product_any _ _ (xor_lt (hplc.val k hk) (lD k hk)) (iv_lt (ev_lt (by have := low.out k hk; omega) (hz k hk))) W
  have PM : Hid (∀ (k i : Nat) W, k < K → Calls Tryd.prog 27 #[.int .i64 (mn L P k : Nat), .int .i64 ((az P k).getD i 0 : Nat)] W fun e w' => e = .returned (.int .i64 (gm (mn L P k) ((az P k).getD i 0) : Nat)) ∧ w' = W) := fun k i W hk =>
    product_any _ _ (mn_lt (lesser (k + 1) (by omega))) (getD_lt (hz k hk) i) W
  have XM : Hid (∀ k i, k < K → bits BinOp.xor IntKind.i64 (nd L P k i : Int) (gm (mn L P k) ((az P k).getD i 0) : Nat) = ((nd L P (k + 1) i : Nat) : Int)) := fun k i hk => xor_at (by have := nd_lt (lesser k (by omega)) i; omega) (by have := gm_lt (mn_lt (lesser (k + 1) (by omega))) (getD_lt (hz k hk) i); omega)
  have AW : Hid (∀ (k A : Nat) W, k < K → Row W A 3 (nf (fun j => (az P k).getD j 0) (k + 1)) → Calls Tryd.prog 29 #[.slice (some ⟨A, 0, none⟩) (k + 1) (k + 1), .int .i64 ((P k : Int) + 1)] W fun e w' => e = .returned (.slice (some ⟨W.heap.size, 0, none⟩) (k + 1 + 1 : Nat) (k + 1 + 1 : Nat)) ∧ Ext W w' ∧ Row w' W.heap.size 3 (nf (fun j => (az P (k + 1)).getD j 0) (k + 1 + 1))) := fun k A W hk R => by
    have hl := low.out k hk
    have n1 := R.numsL (by unfold maxLen; omega) (az P k) (az_len P k) (fun i _ => rfl)
    have := away_any (az P k) (hz k hk) (by rw [az_len]; omega) (P k + 1) (by omega) _ rfl W n1
    simp only [Nm.v, zl_len, az_len] at this
    exact this
  have DN : Hid (∀ k j, k < K → k + 1 ≤ j → nd L P (k + 1) j = nd L P k j) := fun k j hk hj => by rw [nd_none (lesser (k + 1) (by omega)) hj, nd_none (lesser k (by omega)) (by omega)]
  have hmk : ∀ W : World, (Instr.makeSlice 22 (.int .i64 (K : Int)) (.int .i64 (K : Int))).run Tryd.prog W = .ok (.slice (some ⟨W.heap.size, 0, none⟩) K K) (W.alloc (.cells (madeCells #[.int .i64 0] K) 3)) := fun W =>
    run_make_row' 22 3 (.int .i64 0) 8 Tryd.underlying22 info3 rfl .i64 .i64 K (by omega) (by omega) W
  have R0 : Hid (Row ((w.alloc (.cells (madeCells #[.int .i64 0] K) 3)).alloc (.cells #[.int .i64 1] 3)) w.heap.size 3 (nf (nd L P 0) K)) := (Row.madeN w K (nd L P 0) (fun i _ => rfl)).ext ((Ext.refl _).alloc _)
  have E0 : Hid (Ext w ((w.alloc (.cells (madeCells #[.int .i64 0] K) 3)).alloc (.cells #[.int .i64 1] 3))) := ((Ext.refl w).alloc _).alloc _
  have A0 : Hid (Row ((w.alloc (.cells (madeCells #[.int .i64 0] K) 3)).alloc (.cells #[.int .i64 1] 3)) (w.heap.size + 1) 3 (nf (fun j => (az P 0).getD j 0) (0 + 1))) := by
    have : ((w.alloc (.cells (madeCells #[.int .i64 0] K) 3)).alloc (.cells #[.int .i64 1] 3)).heap[(w.alloc (.cells (madeCells #[.int .i64 0] K) 3)).heap.size]? = _ := heap_alloc_new _ _
    rw [World.size_alloc] at this
    exact this
  clear h1 h2 h4 h3 k4 k3 k1 k2 hpls hplc lesser hz lD hlen hval
  simp only [Nm.v]
  rw [plen, LA, PA]
  clear plen LA PA
  generalize y.c = yc at *
  generalize pm.c = pc at *
  generalize y.z.length = ylen at *
  obtain ⟨Ld, hLd⟩ : ∃ Ld : Nat → Nat, Ld = fun k => L (P k) := ⟨_, rfl⟩
  have LC : Hid (∀ k, k < K → w.cell? ⟨b, o + P k, none⟩ = some (.int .i64 (Ld k : Nat))) := by rw [hLd]; exact LC.out
  obtain ⟨Ed, hEd⟩ : ∃ Ed : Nat → Nat, Ed = fun k => ev (P k + 1) (nl (nd L P k) k) := ⟨_, rfl⟩
  obtain ⟨Ea, hEa⟩ : ∃ Ea : Nat → Nat, Ea = fun k => ev (P k + 1) (az P k) := ⟨_, rfl⟩
  obtain ⟨Xk, hXk⟩ : ∃ Xk : Nat → Nat, Xk = fun k => L (P k) ^^^ ev (P k + 1) (nl (nd L P k) k) := ⟨_, rfl⟩
  obtain ⟨Ik, hIk⟩ : ∃ Ik : Nat → Nat, Ik = fun k => iv (ev (P k + 1) (az P k)) := ⟨_, rfl⟩
  obtain ⟨Mk, hMk⟩ : ∃ Mk : Nat → Nat, Mk = fun k => mn L P k := ⟨_, rfl⟩
  obtain ⟨Zk, hZk⟩ : ∃ Zk : Nat → Nat → Nat, Zk = fun k j => (az P k).getD j 0 := ⟨_, rfl⟩
  obtain ⟨Gk, hGk⟩ : ∃ Gk : Nat → Nat → Nat, Gk = fun k j => gm (mn L P k) ((az P k).getD j 0) := ⟨_, rfl⟩
  obtain ⟨D, hD⟩ : ∃ D : Nat → Nat → Nat, D = nd L P := ⟨_, rfl⟩
  have SD : Hid (∀ (k : Nat) W, k < K → Row W w.heap.size 3 (nf (D k) K) → Calls Tryd.prog 26 #[.slice (some ⟨w.heap.size, 0, none⟩) K K, .int .i64 ((P k : Int) + 1)] W fun e w' => e = .returned (.int .i64 (Ed k : Nat)) ∧ Ext W w') := by rw [hD, hEd]; exact SD.out
  have SA : Hid (∀ (k A : Nat) W, k < K → Row W A 3 (nf (Zk k) (k + 1)) → Calls Tryd.prog 26 #[.slice (some ⟨A, 0, none⟩) (k + 1) (k + 1), .int .i64 ((P k : Int) + 1)] W fun e w' => e = .returned (.int .i64 (Ea k : Nat)) ∧ Ext W w') := by rw [hZk, hEa]; exact SA.out
  have IV : Hid (∀ (k : Nat) W, k < K → Calls Tryd.prog 28 #[.int .i64 (Ea k : Nat)] W fun e w' => e = .returned (.int .i64 (Ik k : Nat)) ∧ w' = W) := by rw [hEa, hIk]; exact IV.out
  have XL : Hid (∀ k, k < K → bits BinOp.xor IntKind.i64 (Ld k : Int) (Ed k : Nat) = ((Xk k : Nat) : Int)) := by rw [hLd, hEd, hXk]; exact XL.out
  have PR : Hid (∀ (k : Nat) W, k < K → Calls Tryd.prog 27 #[.int .i64 (Xk k : Nat), .int .i64 (Ik k : Nat)] W fun e w' => e = .returned (.int .i64 (Mk k : Nat)) ∧ w' = W) := by rw [hXk, hIk, hMk]; exact PR.out
  have PM : Hid (∀ (k i : Nat) W, k < K → Calls Tryd.prog 27 #[.int .i64 (Mk k : Nat), .int .i64 (Zk k i : Nat)] W fun e w' => e = .returned (.int .i64 (Gk k i : Nat)) ∧ w' = W) := by rw [hMk, hZk, hGk]; exact PM.out
  have XM : Hid (∀ k i, k < K → bits BinOp.xor IntKind.i64 (D k i : Int) (Gk k i : Nat) = ((D (k + 1) i : Nat) : Int)) := by rw [hD, hGk]; exact XM.out
  have AW : Hid (∀ (k A : Nat) W, k < K → Row W A 3 (nf (Zk k) (k + 1)) → Calls Tryd.prog 29 #[.slice (some ⟨A, 0, none⟩) (k + 1) (k + 1), .int .i64 ((P k : Int) + 1)] W fun e w' => e = .returned (.slice (some ⟨W.heap.size, 0, none⟩) (k + 1 + 1 : Nat) (k + 1 + 1 : Nat)) ∧ Ext W w' ∧ Row w' W.heap.size 3 (nf (Zk (k + 1)) (k + 1 + 1))) := by rw [hZk]; exact AW.out
  have DN : Hid (∀ k j, k < K → k + 1 ≤ j → D (k + 1) j = D k j) := by rw [hD]; exact DN.out
  have R0 : Hid (Row ((w.alloc (.cells (madeCells #[.int .i64 0] K) 3)).alloc (.cells #[.int .i64 1] 3)) w.heap.size 3 (nf (D 0) K)) := by rw [hD]; exact R0.out
  have A0 : Hid (Row ((w.alloc (.cells (madeCells #[.int .i64 0] K) 3)).alloc (.cells #[.int .i64 1] 3)) (w.heap.size + 1) 3 (nf (Zk 0) (0 + 1))) := by rw [hZk]; exact A0.out
  rw [← hD]
  clear hLd hEd hEa hXk hIk hMk hZk hGk hD
  go_enter Tryd.func15, Tryd.ntmps15
  go_wp2
  clear hmk
  generalize (w.alloc (.cells (madeCells #[.int .i64 0] K) 3)).alloc (.cells #[.int .i64 1] 3) = w1 at *
  go_loopg [6, 8, 9, 10, 11, 12, 13, 20] K (fun gg s6 _ _ _ _ _ _ s20 wr => ∃ k A : Nat, k ≤ K ∧ K - k ≤ gg ∧ s20 = .int .i64 k ∧ s6 = .slice (some ⟨A, 0, none⟩) (k + 1) (k + 1) ∧ w.heap.size < A ∧ Aside (Ext w wr) ∧ Aside (Row wr w.heap.size 3 (nf (D k) K)) ∧ Aside (Row wr A 3 (nf (Zk k) (k + 1))))
  case atStart => exact ⟨0, w.heap.size + 1, by omega, by omega, rfl, rfl, by omega, E0.out, R0.out, A0.out⟩
  case round =>
    obtain ⟨k, A, hk, hgg, rfl, rfl, hA, E, R, RA⟩ := hrel
    clear R0 E0 A0
    by_cases hlt : k < K
    · have hltz : (k : Int) < (K : Int) := by omega
      have hcp := E.out.cell (PC.out k hlt)
      have hcl := E.out.cell (LC.out k hlt)
      have hPl := HL.out k hlt
      have hPz : (P k : Int) < (ylen : Int) := by omega
      have hP15 := low.out k hlt
      have c1 := pointOf_any (P k) (by omega) wr
      have kD := SD.out k
      have xl := XL.out k hlt
      have D1 : Calls Tryd.prog 26 #[.slice (some ⟨w.heap.size, 0, none⟩) K K, .int .i64 ((P k : Int) + 1)] wr fun e w' => e = .returned (.int .i64 (Ed k : Nat)) ∧ Ext wr w' ∧ w'.cell? ⟨b, o + P k, none⟩ = some (.int .i64 (Ld k : Nat)) := (kD wr hlt R.out).mono fun e w' h => ⟨h.1, h.2, h.2.cell hcl⟩
      have D2 : Calls Tryd.prog 26 #[.slice (some ⟨w.heap.size, 0, none⟩) K K, .int .i64 ((P k : Int) + 1)] wr.drew fun e w' => e = .returned (.int .i64 (Ed k : Nat)) ∧ Ext wr w' ∧ w'.cell? ⟨b, o + P k, none⟩ = some (.int .i64 (Ld k : Nat)) := (kD wr.drew hlt (R.out.ext (ext_drew _))).mono fun e w' h => ⟨h.1, (ext_drew wr).trans h.2, ((ext_drew wr).trans h.2).cell hcl⟩
      have d1 : Hid (Calls Tryd.prog 26 #[.slice (some ⟨w.heap.size, 0, none⟩) K K, .int .i64 ((P k : Int) + 1)] wr fun e w' => e = .returned (.int .i64 (Ed k : Nat)) ∧ Ext wr w' ∧ w'.cell? ⟨b, o + P k, none⟩ = some (.int .i64 (Ld k : Nat))) := D1
      have d2 : Hid (Calls Tryd.prog 26 #[.slice (some ⟨w.heap.size, 0, none⟩) K K, .int .i64 ((P k : Int) + 1)] wr.drew fun e w' => e = .returned (.int .i64 (Ed k : Nat)) ∧ Ext wr w' ∧ w'.cell? ⟨b, o + P k, none⟩ = some (.int .i64 (Ld k : Nat))) := D2
      clear D1 D2 kD
      go_upto_region 7 with (go_at_call 25; refine c1.mono ?_; rintro e w' ⟨rfl, hh⟩; have hh := hh.symm; subst hh)
      clear c1
      go_cut [10] (fun s10 wx => s10 = .int .i64 (Xk k : Nat) ∧ Aside (Ext wr wx))
      case first =>
        go_region_with (go_at_call 26; first | (refine d1.out.mono ?_; rintro e w5 ⟨rfl, E5, C5⟩) | (refine d2.out.mono ?_; rintro e w5 ⟨rfl, E5, C5⟩))
        all_goals
          go_wp2
          go_meet
          case rel => exact ⟨rfl, by first | exact E5 | exact E5.drewN 1⟩
      case rest =>
        obtain ⟨rfl, E5⟩ := hcut
        have RD : Hid (Row wc w.heap.size 3 (nf (D k) K)) := R.out.ext E5.out
        have RZ : Hid (Row wc A 3 (nf (Zk k) (k + 1))) := RA.out.ext E5.out
        have EC : Hid (Ext w wc) := E.out.trans E5.out
        clear d1 d2 xl hcp hcl E5 E R RA SD XL LC
        have c2 := SA.out k A wc hlt RZ.out
        go_wp2_with fail
        refine c2.mono ?_
        rintro e w6 ⟨rfl, E6⟩
        clear c2
        have RD6 : Hid (Row w6 w.heap.size 3 (nf (D k) K)) := RD.out.ext E6
        have RZ6 : Hid (Row w6 A 3 (nf (Zk k) (k + 1))) := RZ.out.ext E6
        have EC6 : Hid (Ext w w6) := EC.out.trans E6
        clear RD RZ EC E6
        have c3 := IV.out k w6 hlt
        have c4 := PR.out k w6 hlt
        go_wp2_with fail
        refine c3.mono ?_
        rintro e w' ⟨rfl, hh⟩
        have hh := hh.symm
        subst hh
        clear c3
        go_wp2_with fail
        refine c4.mono ?_
        rintro e w' ⟨rfl, hh⟩
        have hh := hh.symm
        subst hh
        clear c4
        go_wp2
        go_loopg [12, 13, 42] (k + 1) (fun gg2 _ _ s42 wi => ∃ i : Nat, i ≤ k + 1 ∧ k + 1 - i ≤ gg2 ∧ s42 = .int .i64 i ∧ Aside (Ext w wi) ∧ Aside (Row wi w.heap.size 3 (nf (fun j => if j < i then D (k + 1) j else D k j) K)) ∧ Aside (Row wi A 3 (nf (Zk k) (k + 1))))
        case atStart => exact ⟨0, by omega, by omega, rfl, EC6.out, by
          rw [nf_congr (fun j _ => if_neg (Nat.not_lt_zero j))]
          exact RD6.out, RZ6.out⟩
        case round =>
          obtain ⟨i, hi, hgg2, rfl, E, R, RZ⟩ := hrel
          clear EC6 RD6 RZ6
          by_cases hlt2 : i < k + 1
          · have hltz2 : (i : Int) < (k : Int) + 1 := by omega
            have hc1 := RZ.out.cellN i hlt2
            have hc2 : wr.cell? ⟨w.heap.size, i, none⟩ = some (.int .i64 (D k i : Nat)) := by
              have := R.out.cellN i (by omega)
              simpa using this
            have hf2 := R.out.fr i
            have xm := XM.out k i hlt
            have pm : Hid (∀ W, Calls Tryd.prog 27 #[.int .i64 (Mk k : Nat), .int .i64 (Zk k i : Nat)] W fun e w' => e = .returned (.int .i64 (Gk k i : Nat)) ∧ w' = W) := fun W => PM.out k i W hlt
            have R2 : Hid (Row (wr.setCell ⟨w.heap.size, i, none⟩ (.int .i64 (D (k + 1) i : Nat))) w.heap.size 3 (nf (fun j => if j < i + 1 then D (k + 1) j else D k j) K)) := R.out.setN _ _ (fun j _ => by
              by_cases h : j = i
              · subst h; simp
              · rw [if_neg h]
                by_cases h2 : j < i
                · rw [if_pos h2, if_pos (by omega)]
                · rw [if_neg h2, if_neg (by omega)])
            have RZ2 : Hid (Row (wr.setCell ⟨w.heap.size, i, none⟩ (.int .i64 (D (k + 1) i : Nat))) A 3 (nf (Zk k) (k + 1))) := RZ.out.other _ (by simp; omega) _
            have E2 : Hid (Ext w (wr.setCell ⟨w.heap.size, i, none⟩ (.int .i64 (D (k + 1) i : Nat)))) := E.out.setCell (p := ⟨w.heap.size, i, none⟩) (Nat.le_refl _) _
            have hiK : (i : Int) < (K : Int) := by omega
            clear E R RZ SA IV PR PM XM AW DN PC HL low
            generalize Zk k i = zz at *
            generalize D k i = d0 at *
            generalize D (k + 1) i = d1 at *
            generalize Gk k i = g1 at *
            generalize Mk k = m1 at *
            go_wp2_with fail
            go_region_with (go_at_call 27; refine (pm.out _).mono ?_; rintro e w5 ⟨rfl, rfl⟩)
            all_goals
              go_wp2
              go_roundg (k + 1 - (i + 1))
              case measure => omega
              case rel => exact ⟨i + 1, by omega, by omega, by go_num, E2.out.drewN 1, R2.out.ext (ext_drew _), RZ2.out.ext (ext_drew _)⟩
          · obtain rfl : i = k + 1 := by omega
            have RD : Hid (Row wr w.heap.size 3 (nf (D (k + 1)) K)) := by
              have := R.out
              rw [nf_congr (g := D (k + 1)) (fun j _ => by
                by_cases h : j < k + 1
                · rw [if_pos h]
                · rw [if_neg h, DN.out k j hlt (by omega)])] at this
              exact this
            have c5 := AW.out k A wr hlt RZ.out
            have hAl := RZ.out.lt
            have HE : Hid (Ext w wr) := E.out
            clear E R RZ
            go_wp2_with fail
            refine c5.mono ?_
            rintro e w7 ⟨rfl, E7, RZ7⟩
            clear c5
            have RD7 : Hid (Row w7 w.heap.size 3 (nf (D (k + 1)) K)) := RD.out.ext E7
            have EC7 : Hid (Ext w w7) := HE.out.trans E7
            have RZ8 : Hid (Row w7 wr.heap.size 3 (nf (Zk (k + 1)) (k + 1 + 1))) := RZ7
            clear E7 HE RD RZ7
            go_wp2
            go_roundg (K - (k + 1))
            case measure => omega
            case rel => exact ⟨k + 1, wr.heap.size, by omega, by omega, by go_num, rfl, by omega, EC7.out, RD7.out, RZ8.out⟩
    · obtain rfl : k = K := by omega
      go_wp2
      go_ret
      exact ⟨rfl, E.out, R.out⟩

end Go.Proofs.YtjdipgkdaloclaaDoor
