/-
  quipuref.through: the same numbers, one more each time.
-/
import Derived.Test.YtjdipgkdaloclaaDoorTh
import Derived.Test.YtjdipgkdaloclaaDoorMix
import Derived.Deep.QuietTactic
namespace Go.Proofs.YtjdipgkdaloclaaDoor
open Go.RowKit

/-- What is laid when the first of both cells of a round is, the later one ahead. -/
def awh (z : List Nat) (x i j : Nat) : Nat := if j = i + 1 then awf z x i (i + 1) ^^^ z.getD i 0 else awf z x i j
theorem awh_next {z : List Nat} {x i : Nat} (hx : x < 16) (hi : i < z.length) (j : Nat) : awf z x (i + 1) j = if j = i then awh z x i i ^^^ gm (z.getD i 0) x else awh z x i j := by
  have e1 := awf_next (z := z) (x := x) (i := i) j
  have e2 := awg_next (z := z) (x := x) hx hi
  rw [e1, e2 (i + 1), e2 j]
  unfold awh
  by_cases h : j = i + 1
  · subst h
    rw [if_pos rfl, if_neg (by omega), if_neg (by omega), if_pos rfl]
  · rw [if_neg h]
    by_cases h2 : j = i
    · subst h2
      rw [if_pos rfl, if_pos rfl, if_neg (by omega)]
    · rw [if_neg h2, if_neg h2, if_neg h]
theorem awh_lt {z : List Nat} {x i : Nat} (hx : x < 16) (hz : ∀ a ∈ z, a < 16) (j : Nat) : awh z x i j < 16 := by
  unfold awh
  split
  · exact xor_lt (awf_lt hx hz _) (getD_lt hz _)
  · exact awf_lt hx hz _

/-- A list of one's own has a block that opens with its numbers. -/
theorem OwnN.rowF {w0 w : World} {v : Value} {f : Nat → Nat} {n : Nat} (h : OwnN w0 w v (zl (nl f n))) (h0 : 0 < n) : ∃ g cap rest, v = .slice (some ⟨g, 0, none⟩) n cap ∧ w0.heap.size ≤ g ∧ n ≤ cap ∧ cap ≤ maxLen ∧ Row w g 3 (nf f n ++ rest) ∧ n + rest.length = cap := by
  obtain ⟨he, h1, h2⟩ := h
  rw [← nf_zl] at h1 h2
  rw [zl_len, nl_len] at h1 h2
  rcases h2 with ⟨_, h2⟩ | ⟨g, cap, cur, rfl, hg, hh, hc, hm, hs, ht⟩
  · omega
  · rw [Nat.mul_one] at ht hs
    refine ⟨g, cap, cur.toList.drop n, rfl, hg, hc, hm, ?_, by simp; omega⟩
    show w.heap[g]? = _
    rw [hh, ← ht, List.take_append_drop]
theorem OwnN.of_rowF {w0 w : World} {g cap n : Nat} {f : Nat → Nat} {rest : List Value} (he : Ext w0 w) (hg : w0.heap.size ≤ g) (hr : Row w g 3 (nf f n ++ rest)) (hl : n + rest.length = cap) (hm : cap ≤ maxLen) : OwnN w0 w (.slice (some ⟨g, 0, none⟩) n cap) (zl (nl f n)) := by
  refine ⟨he, by simp, ?_⟩
  rw [← nf_zl, zl_len, nl_len]
  exact Or.inr ⟨g, cap, (nf f n ++ rest).toArray, rfl, hg, hr, by omega, hm, by simp; omega, by simp⟩
theorem Row.cellR {w : World} {B n : Nat} {f : Nat → Nat} {rest : List Value} (h : Row w B 3 (nf f n ++ rest)) (k : Nat) (hk : k < n) : w.cell? ⟨B, k, none⟩ = some (.int .i64 (f k : Nat)) := by
  have := Row.cell h k (by simp; omega)
  rw [this, List.getElem_append_left (by simpa using hk)]
  simp
theorem Row.setR {w : World} {B n k : Nat} {f : Nat → Nat} {rest : List Value} (h : Row w B 3 (nf f n ++ rest)) (hk : k < n) (v : Nat) (g : Nat → Nat) (hg : ∀ i, i < n → g i = if i = k then v else f i) : Row (w.setCell ⟨B, k, none⟩ (.int .i64 (v : Nat))) B 3 (nf g n ++ rest) := by
  have := Row.set h k (.int .i64 (v : Nat))
  rw [List.set_append, if_pos (by simpa using hk)] at this
  have e : (nf f n).set k (.int .i64 (v : Nat)) = nf g n := by
    apply List.ext_getElem
    · simp
    · intro i h1 h2
      simp at h1 h2
      rw [List.getElem_set]
      simp only [List.getElem_map, List.getElem_range]
      rw [hg i h2]
      by_cases hk : k = i
      · rw [if_pos hk, if_pos hk.symm]
      · rw [if_neg hk, if_neg (fun h => hk h.symm)]
  rw [e] at this
  exact this

/-- What is not all 0 once .. is away: one place more, as quipuref.through does it. -/
theorem ref_zero : True := trivial

set_option maxRecDepth 100000 in
set_option maxHeartbeats 4000000 in
theorem refThrough_any (L P : Nat → Nat) (K : Nat) (y pm : Nm) (T : Thr L P K y pm) (w : World) (hy : Nums w y) (hp : Nums w pm) :
    Calls Tryd.prog 20 #[y.v, pm.v] w fun e w' => ∃ v, e = .returned v ∧ OwnN w w' v (zl (nl (nd L P K) K)) := by
  obtain ⟨hplc, hpos, hle, hlen, hval, hpls⟩ := T
  have plen : pm.z.length = K := by rw [hpls]; simp
  have HL : Hid (∀ k, k < K → P k < y.z.length) := hlen
  obtain ⟨h1, h2, _, b, o, h3, h4⟩ := hy
  obtain ⟨k1, k2, _, pb, po, k3, k4⟩ := hp
  rw [plen] at k1 k3 k4
  have LC : Hid (∀ k, k < K → w.cell? ⟨b, o + P k, none⟩ = some (.int .i64 (L (P k) : Nat))) := fun k hk => by rw [h4 _ (hlen k hk), hval k hk]
  have PC : Hid (∀ k, k < K → w.cell? ⟨pb, po + k, none⟩ = some (.int .i64 (P k : Nat))) := fun k hk => by rw [k4 k hk, hpls, zl_at, nl_at _ hk]
  have LA := h3 (by have := hlen 0 (by omega); omega)
  have PA := k3 (by omega)
  have low : Hid (∀ k, k < K → P k < 15) := hplc.low
  have lesser : ∀ k, k ≤ K → Plc L P k := fun k hk => hplc.less hk
  have hz : ∀ k, k ≤ K → ∀ a ∈ az P k, a < 16 := fun k hk => az_lt (fun i hi => hplc.low i (by omega))
  have SD : Hid (∀ (k : Nat) W v, k < K → OwnN w W v (zl (nl (nd L P k) k)) → Calls Tryd.prog 31 #[v, .int .i64 ((P k : Int) + 1)] W fun e w' => e = .returned (.int .i64 (ev (P k + 1) (nl (nd L P k) k) : Nat)) ∧ w' = W) := fun k W v hk O => by
    have hl := low.out k hk
    obtain ⟨m, rfl, hm, hn⟩ := O.nums
    have hd := nl_lt (n := k) (f := nd L P k) (fun i _ => nd_lt (lesser k (by omega)) i)
    have := value_any (nl (nd L P k) k) hd (P k + 1) (by omega) m hm W hn
    rw [vl_zero (by omega) hd] at this
    exact this
  have SA : Hid (∀ (k A : Nat) W, k < K → Row W A 3 (nf (fun j => (az P k).getD j 0) (k + 1)) → Calls Tryd.prog 31 #[.slice (some ⟨A, 0, none⟩) (k + 1) (k + 1), .int .i64 ((P k : Int) + 1)] W fun e w' => e = .returned (.int .i64 (ev (P k + 1) (az P k) : Nat)) ∧ w' = W) := fun k A W hk R => by
    have hl := low.out k hk
    have n1 := R.numsL (by unfold maxLen; omega) (az P k) (az_len P k) (fun i _ => rfl)
    have := value_any (az P k) (hz k (by omega)) (P k + 1) (by omega) _ rfl W n1
    rw [vl_zero (by omega) (hz k (by omega))] at this
    simp only [Nm.v, zl_len, az_len] at this
    exact this
  have IV : Hid (∀ (k : Nat) W, k < K → Calls Tryd.prog 32 #[.int .i64 (ev (P k + 1) (az P k) : Nat)] W fun e w' => e = .returned (.int .i64 (iv (ev (P k + 1) (az P k)) : Nat)) ∧ w' = W) := fun k W hk => by
    have hl := low.out k hk
    exact refInv_any _ (ev_lt (by omega) (hz k (by omega))) (az_some hl (fun i hi => low.out i (by omega)) (fun i hi e => by have := hplc.one i k (by omega) hk e; omega)) W
  have lD : ∀ k, k < K → ev (P k + 1) (nl (nd L P k) k) < 16 := fun k hk => ev_lt (by have := low.out k hk; omega) (nl_lt (fun i _ => nd_lt (lesser k (by omega)) i))
  have XL : Hid (∀ k, k < K → bits BinOp.xor IntKind.i64 (L (P k) : Int) (ev (P k + 1) (nl (nd L P k) k) : Nat) = ((L (P k) ^^^ ev (P k + 1) (nl (nd L P k) k) : Nat) : Int)) := fun k hk => xor_at (by have := hplc.val k hk; omega) (by have := lD k hk; omega)
  have PR : Hid (∀ (k : Nat) W, k < K → Calls Tryd.prog 30 #[.int .i64 (L (P k) ^^^ ev (P k + 1) (nl (nd L P k) k) : Nat), .int .i64 (iv (ev (P k + 1) (az P k)) : Nat)] W fun e w' => e = .returned (.int .i64 (mn L P k : Nat)) ∧ w' = W) := fun k W hk =>
    refMul_any _ _ (xor_lt (hplc.val k hk) (lD k hk)) (iv_lt (ev_lt (by have := low.out k hk; omega) (hz k (by omega)))) W
  have PM : Hid (∀ (k i : Nat) W, k < K → Calls Tryd.prog 30 #[.int .i64 ((az P k).getD i 0 : Nat), .int .i64 (mn L P k : Nat)] W fun e w' => e = .returned (.int .i64 (gm (mn L P k) ((az P k).getD i 0) : Nat)) ∧ w' = W) := fun k i W hk => by
    have := refMul_any _ _ (getD_lt (hz k (by omega)) i) (mn_lt (lesser (k + 1) (by omega))) W
    rw [gm_comm (getD_lt (hz k (by omega)) i) (mn_lt (lesser (k + 1) (by omega)))] at this
    exact this
  have XM : Hid (∀ k i, k < K → bits BinOp.xor IntKind.i64 (nd L P k i : Int) (gm (mn L P k) ((az P k).getD i 0) : Nat) = ((nd L P (k + 1) i : Nat) : Int)) := fun k i hk => xor_at (by have := nd_lt (lesser k (by omega)) i; omega) (by have := gm_lt (mn_lt (lesser (k + 1) (by omega))) (getD_lt (hz k (by omega)) i); omega)
  have DZ : Hid (∀ k, k < K → nd L P k k = 0) := fun k hk => nd_none (lesser k (by omega)) (Nat.le_refl _)
  -- the cells of what is to come of those at place j
  have F0 : Hid (∀ j i, awf (az P j) (P j + 1) 0 i = 0) := fun j i => awf_zero _ _ _
  have FH : Hid (∀ j m i, j < K → m < j + 1 → awf (az P j) (P j + 1) (m + 1) i = if i = m then awh (az P j) (P j + 1) m m ^^^ gm ((az P j).getD m 0) (P j + 1) else awh (az P j) (P j + 1) m i) := fun j m i hj hm => awh_next (by have := low.out j hj; omega) (by rw [az_len]; exact hm) i
  have HF : Hid (∀ j m i, awh (az P j) (P j + 1) m i = if i = m + 1 then awf (az P j) (P j + 1) m (m + 1) ^^^ (az P j).getD m 0 else awf (az P j) (P j + 1) m i) := fun j m i => rfl
  have FE : Hid (∀ j i, j < K → i < j + 1 + 1 → awf (az P j) (P j + 1) (j + 1) i = (az P (j + 1)).getD i 0) := fun j i hj hi => by
    have := awf_last (z := az P j) (x := P j + 1) (by have := low.out j hj; omega) i (by rw [az_len]; exact hi)
    rw [az_len] at this
    exact this
  have XF : Hid (∀ j m i, j < K → bits BinOp.xor IntKind.i64 (awf (az P j) (P j + 1) m i : Int) ((az P j).getD m 0 : Nat) = ((awf (az P j) (P j + 1) m i ^^^ (az P j).getD m 0 : Nat) : Int)) := fun j m i hj =>
    xor_at (by have := awf_lt (z := az P j) (x := P j + 1) (i := m) (by have := low.out j hj; omega) (hz j (by omega)) i; omega) (by have := getD_lt (hz j (by omega)) m; omega)
  have XH : Hid (∀ j m i, j < K → bits BinOp.xor IntKind.i64 (awh (az P j) (P j + 1) m i : Int) (gm ((az P j).getD m 0) (P j + 1) : Nat) = ((awh (az P j) (P j + 1) m i ^^^ gm ((az P j).getD m 0) (P j + 1) : Nat) : Int)) := fun j m i hj =>
    xor_at (by have := awh_lt (z := az P j) (x := P j + 1) (i := m) (by have := low.out j hj; omega) (hz j (by omega)) i; omega) (by have := gm_lt (getD_lt (hz j (by omega)) m) (show P j + 1 < 16 by have := low.out j hj; omega); omega)
  have MX : Hid (∀ (j m : Nat) W, j < K → Calls Tryd.prog 30 #[.int .i64 ((az P j).getD m 0 : Nat), .int .i64 ((P j : Int) + 1)] W fun e w' => e = .returned (.int .i64 (gm ((az P j).getD m 0) (P j + 1) : Nat)) ∧ w' = W) := fun j m W hj =>
    refMul_any _ (P j + 1) (getD_lt (hz j (by omega)) m) (by have := low.out j hj; omega) W
  have MK : Hid (∀ (j : Nat) (W : World), j < K → (Instr.makeSlice 22 (.int .i64 ((j : Int) + 1 + 1)) (.int .i64 ((j : Int) + 1 + 1))).run Tryd.prog W = .ok (.slice (some ⟨W.heap.size, 0, none⟩) (j + 1 + 1) (j + 1 + 1)) (W.alloc (.cells (madeCells #[.int .i64 0] (j + 1 + 1)) 3))) := fun j W hj =>
    run_make_row' 22 3 (.int .i64 0) 8 Tryd.underlying22 info3 rfl .i64 .i64 (j + 1 + 1) (by omega) (by omega) W
  have Z0 : Hid (∀ W : World, Row (W.alloc (.cells #[.int .i64 1] 3)) W.heap.size 3 (nf (fun j => (az P 0).getD j 0) (0 + 1))) := fun W => heap_alloc_new _ _
  have hcap : K ≤ pm.c := k1
  clear h1 h2 h4 h3 k4 k3 k1 hpls hplc lesser hz lD hlen hval
  simp only [Nm.v]
  rw [plen, LA, PA]
  clear plen LA PA
  generalize y.c = yc at *
  generalize pm.c = pc at *
  generalize y.z.length = ylen at *
  unfold maxLen at k2
  obtain ⟨Ld, hLd⟩ : ∃ Ld : Nat → Nat, Ld = fun k => L (P k) := ⟨_, rfl⟩
  have LC : Hid (∀ k, k < K → w.cell? ⟨b, o + P k, none⟩ = some (.int .i64 (Ld k : Nat))) := by rw [hLd]; exact LC.out
  obtain ⟨Ed, hEd⟩ : ∃ Ed : Nat → Nat, Ed = fun k => ev (P k + 1) (nl (nd L P k) k) := ⟨_, rfl⟩
  obtain ⟨Ea, hEa⟩ : ∃ Ea : Nat → Nat, Ea = fun k => ev (P k + 1) (az P k) := ⟨_, rfl⟩
  obtain ⟨Xk, hXk⟩ : ∃ Xk : Nat → Nat, Xk = fun k => L (P k) ^^^ ev (P k + 1) (nl (nd L P k) k) := ⟨_, rfl⟩
  obtain ⟨Ik, hIk⟩ : ∃ Ik : Nat → Nat, Ik = fun k => iv (ev (P k + 1) (az P k)) := ⟨_, rfl⟩
  obtain ⟨Mk, hMk⟩ : ∃ Mk : Nat → Nat, Mk = fun k => mn L P k := ⟨_, rfl⟩
  obtain ⟨Zk, hZk⟩ : ∃ Zk : Nat → Nat → Nat, Zk = fun k j => (az P k).getD j 0 := ⟨_, rfl⟩
  obtain ⟨Gk, hGk⟩ : ∃ Gk : Nat → Nat → Nat, Gk = fun k j => gm (mn L P k) ((az P k).getD j 0) := ⟨_, rfl⟩
  obtain ⟨D, hD⟩ : ∃ D : Nat → Nat → Nat, D = nd L P := ⟨_, rfl⟩
  obtain ⟨F, hF⟩ : ∃ F : Nat → Nat → Nat → Nat, F = fun j m i => awf (az P j) (P j + 1) m i := ⟨_, rfl⟩
  obtain ⟨H, hH⟩ : ∃ H : Nat → Nat → Nat → Nat, H = fun j m i => awh (az P j) (P j + 1) m i := ⟨_, rfl⟩
  obtain ⟨Gx, hGx⟩ : ∃ Gx : Nat → Nat → Nat, Gx = fun j m => gm ((az P j).getD m 0) (P j + 1) := ⟨_, rfl⟩
  have SD : Hid (∀ (k : Nat) W v, k < K → OwnN w W v (zl (nl (D k) k)) → Calls Tryd.prog 31 #[v, .int .i64 ((P k : Int) + 1)] W fun e w' => e = .returned (.int .i64 (Ed k : Nat)) ∧ w' = W) := by rw [hD, hEd]; exact SD.out
  have SA : Hid (∀ (k A : Nat) W, k < K → Row W A 3 (nf (Zk k) (k + 1)) → Calls Tryd.prog 31 #[.slice (some ⟨A, 0, none⟩) (k + 1) (k + 1), .int .i64 ((P k : Int) + 1)] W fun e w' => e = .returned (.int .i64 (Ea k : Nat)) ∧ w' = W) := by rw [hZk, hEa]; exact SA.out
  have IV : Hid (∀ (k : Nat) W, k < K → Calls Tryd.prog 32 #[.int .i64 (Ea k : Nat)] W fun e w' => e = .returned (.int .i64 (Ik k : Nat)) ∧ w' = W) := by rw [hEa, hIk]; exact IV.out
  have XL : Hid (∀ k, k < K → bits BinOp.xor IntKind.i64 (Ld k : Int) (Ed k : Nat) = ((Xk k : Nat) : Int)) := by rw [hLd, hEd, hXk]; exact XL.out
  have PR : Hid (∀ (k : Nat) W, k < K → Calls Tryd.prog 30 #[.int .i64 (Xk k : Nat), .int .i64 (Ik k : Nat)] W fun e w' => e = .returned (.int .i64 (Mk k : Nat)) ∧ w' = W) := by rw [hXk, hIk, hMk]; exact PR.out
  have PM : Hid (∀ (k i : Nat) W, k < K → Calls Tryd.prog 30 #[.int .i64 (Zk k i : Nat), .int .i64 (Mk k : Nat)] W fun e w' => e = .returned (.int .i64 (Gk k i : Nat)) ∧ w' = W) := by rw [hMk, hZk, hGk]; exact PM.out
  have XM : Hid (∀ k i, k < K → bits BinOp.xor IntKind.i64 (D k i : Int) (Gk k i : Nat) = ((D (k + 1) i : Nat) : Int)) := by rw [hD, hGk]; exact XM.out
  have DZ : Hid (∀ k, k < K → D k k = 0) := by rw [hD]; exact DZ.out
  have F0 : Hid (∀ j i, F j 0 i = 0) := by rw [hF]; exact F0.out
  have FH : Hid (∀ j m i, j < K → m < j + 1 → F j (m + 1) i = if i = m then H j m m ^^^ Gx j m else H j m i) := by rw [hF, hH, hGx]; exact FH.out
  have HF : Hid (∀ j m i, H j m i = if i = m + 1 then F j m (m + 1) ^^^ Zk j m else F j m i) := by rw [hF, hH, hZk]; exact HF.out
  have FE : Hid (∀ j i, j < K → i < j + 1 + 1 → F j (j + 1) i = Zk (j + 1) i) := by rw [hF, hZk]; exact FE.out
  have XF : Hid (∀ j m i, j < K → bits BinOp.xor IntKind.i64 (F j m i : Int) (Zk j m : Nat) = ((F j m i ^^^ Zk j m : Nat) : Int)) := by rw [hF, hZk]; exact XF.out
  have XH : Hid (∀ j m i, j < K → bits BinOp.xor IntKind.i64 (H j m i : Int) (Gx j m : Nat) = ((H j m i ^^^ Gx j m : Nat) : Int)) := by rw [hH, hGx]; exact XH.out
  have MX : Hid (∀ (j m : Nat) W, j < K → Calls Tryd.prog 30 #[.int .i64 (Zk j m : Nat), .int .i64 ((P j : Int) + 1)] W fun e w' => e = .returned (.int .i64 (Gx j m : Nat)) ∧ w' = W) := by rw [hZk, hGx]; exact MX.out
  have Z0 : Hid (∀ W : World, Row (W.alloc (.cells #[.int .i64 1] 3)) W.heap.size 3 (nf (Zk 0) (0 + 1))) := by rw [hZk]; exact Z0.out
  rw [← hD]
  clear hLd hEd hEa hXk hIk hMk hZk hGk hD hF hH hGx
  go_enter Tryd.func20, Tryd.ntmps20
  go_wp2
  go_loopg [5, 6, 7, 8, 10, 11, 12, 13, 14, 15, 16, 19] K (fun gg s5 _ _ _ _ _ _ _ _ _ _ s19 wr => ∃ k : Nat, k ≤ K ∧ K - k ≤ gg ∧ s19 = .int .i64 k ∧ Aside (OwnN w wr s5 (zl (nl (D k) k))))
  case atStart => exact ⟨0, by omega, by omega, rfl, OwnN.nil (Ext.refl w)⟩
  case round =>
    obtain ⟨k, hk, hgg, rfl, O⟩ := hrel
    by_cases hlt : k < K
    · have hltz : (k : Int) < (K : Int) := by omega
      have hcp := O.out.1.cell (PC.out k hlt)
      have kc1 : (k : Int) ≤ (pc : Int) := by omega
      have z0 : Hid (Row (wr.alloc (.cells #[.int .i64 1] 3)) wr.heap.size 3 (nf (Zk 0) (0 + 1))) := Z0.out wr
      have O1 : Hid (OwnN w (wr.alloc (.cells #[.int .i64 1] 3)) u5 (zl (nl (D k) k))) := O.out.ext ((Ext.refl wr).alloc _)
      obtain ⟨oa, oc, hov⟩ := O.out.form
      rw [zl_len, nl_len] at hov
      subst hov
      have hob : Hid (∀ Z, wr.heap.size ≤ Z → some Z ≠ (Value.slice oa k oc).ownBlock) := fun Z hZ e => by
        have := (O.out.2.lt Z e.symm).2
        omega
      clear O
      have E1 : Hid (Ext w (wr.alloc (.cells #[.int .i64 1] 3))) := O1.out.1
      go_wp2_with fail
      generalize wr.alloc (.cells #[.int .i64 1] 3) = w1 at *
      generalize wr.heap.size = S0 at *
      clear hcp Z0
      go_loopg [8, 10, 11, 12, 13, 29] k (fun g2 s8 _ _ _ _ s29 wi => ∃ j Z : Nat, j ≤ k ∧ k - j ≤ g2 ∧ s29 = .int .i64 j ∧ s8 = .slice (some ⟨Z, 0, none⟩) (j + 1) (j + 1) ∧ S0 ≤ Z ∧ Aside (Ext w1 wi) ∧ Aside (Row wi Z 3 (nf (Zk j) (j + 1))))
      case atStart => exact ⟨0, S0, by omega, by omega, rfl, rfl, Nat.le_refl _, Ext.refl _, z0.out⟩
      case round =>
        obtain ⟨j, Z, hj, hg2, rfl, rfl, hZ, E, RZ⟩ := hrel
        clear z0
        by_cases hlt2 : j < k
        · have hltz2 : (j : Int) < (k : Int) := by omega
          have hcj := (E1.out.trans E.out).cell (PC.out j (by omega))
          have hmk := fun W => MK.out j W (by omega)
          have HR0 : Hid (Row (wr.alloc (.cells (madeCells #[.int .i64 0] (j + 1 + 1)) 3)) wr.heap.size 3 (nf (F j 0) (j + 1 + 1))) := Row.madeN wr _ _ (fun i _ => F0.out j i)
          have HZ0 : Hid (Row (wr.alloc (.cells (madeCells #[.int .i64 0] (j + 1 + 1)) 3)) Z 3 (nf (Zk j) (j + 1))) := RZ.out.ext ((Ext.refl _).alloc _)
          have HE0 : Hid (Ext w1 (wr.alloc (.cells (madeCells #[.int .i64 0] (j + 1 + 1)) 3))) := E.out.alloc _
          have hZl := RZ.out.lt
          have hNl : S0 ≤ wr.heap.size := by omega
          have hw1 := E.out.size
          clear E RZ
          go_wp2_with fail
          clear hmk hcj
          generalize wr.alloc (.cells (madeCells #[.int .i64 0] (j + 1 + 1)) 3) = w2 at *
          generalize wr.heap.size = N at *
          go_loopg [12, 13, 39] (j + 1) (fun g3 _ _ s39 wi => ∃ m : Nat, m ≤ j + 1 ∧ j + 1 - m ≤ g3 ∧ s39 = .int .i64 m ∧ Aside (Ext w1 wi) ∧ Aside (Row wi N 3 (nf (F j m) (j + 1 + 1))) ∧ Aside (Row wi Z 3 (nf (Zk j) (j + 1))))
          case atStart => exact ⟨0, by omega, by omega, rfl, HE0.out, HR0.out, HZ0.out⟩
          case round =>
            obtain ⟨m, hm, hg3, rfl, E, R, RZ⟩ := hrel
            clear HE0 HR0 HZ0
            by_cases hlt3 : m < j + 1
            · have hltz3 : (m : Int) < (j : Int) + 1 := by omega
              have hcz := RZ.out.cellN m hlt3
              have hc2 := R.out.cellN (m + 1) (by omega)
              have hf2 := R.out.fr (m + 1)
              have xf := XF.out j m (m + 1) (by omega)
              have xh := XH.out j m m (by omega)
              have mx : Hid (∀ W, Calls Tryd.prog 30 #[.int .i64 (Zk j m : Nat), .int .i64 ((P j : Int) + 1)] W fun e w' => e = .returned (.int .i64 (Gx j m : Nat)) ∧ w' = W) := fun W => MX.out j m W (by omega)
              have R2 : Row (wr.setCell ⟨N, m + 1, none⟩ (.int .i64 (F j m (m + 1) ^^^ Zk j m : Nat))) N 3 (nf (H j m) (j + 1 + 1)) := R.out.setN _ _ (fun i _ => HF.out j m i)
              have Z2 : Row (wr.setCell ⟨N, m + 1, none⟩ (.int .i64 (F j m (m + 1) ^^^ Zk j m : Nat))) Z 3 (nf (Zk j) (j + 1)) := RZ.out.other _ (by simp; omega) _
              have E2 : Ext w1 (wr.setCell ⟨N, m + 1, none⟩ (.int .i64 (F j m (m + 1) ^^^ Zk j m : Nat))) := E.out.setCell (p := ⟨N, m + 1, none⟩) (by simp; omega) _
              have hc3 := R2.cellN m (by omega)
              have hf3 := R2.fr m
              have R3 : Hid (Row ((wr.setCell ⟨N, m + 1, none⟩ (.int .i64 (F j m (m + 1) ^^^ Zk j m : Nat))).setCell ⟨N, m, none⟩ (.int .i64 (H j m m ^^^ Gx j m : Nat))) N 3 (nf (F j (m + 1)) (j + 1 + 1))) := R2.setN _ _ (fun i _ => FH.out j m i (by omega) hlt3)
              have Z3 : Hid (Row ((wr.setCell ⟨N, m + 1, none⟩ (.int .i64 (F j m (m + 1) ^^^ Zk j m : Nat))).setCell ⟨N, m, none⟩ (.int .i64 (H j m m ^^^ Gx j m : Nat))) Z 3 (nf (Zk j) (j + 1))) := Z2.other _ (by simp; omega) _
              have E3 : Hid (Ext w1 ((wr.setCell ⟨N, m + 1, none⟩ (.int .i64 (F j m (m + 1) ^^^ Zk j m : Nat))).setCell ⟨N, m, none⟩ (.int .i64 (H j m m ^^^ Gx j m : Nat)))) := E2.setCell (p := ⟨N, m, none⟩) (by simp; omega) _
              have hP15 := low.out j (by omega)
              clear E R RZ R2 Z2 E2 SD SA IV XL PR PM XM DZ F0 FH HF FE XF XH MX MK O1 hob LC PC HL low
              generalize F j m (m + 1) ^^^ Zk j m = q1 at *
              generalize H j m m ^^^ Gx j m = q2 at *
              generalize H j m m = q3 at *
              generalize F j m (m + 1) = q4 at *
              generalize Gx j m = q5 at *
              generalize hzz : Zk j m = q6 at *
              clear hzz
              go_wp2_with fail
              have k3 : (wr.setCell ⟨N, m + 1, none⟩ (.int .i64 (q1 : Nat))).drew.cell? ⟨N, m, none⟩ = some (.int .i64 (q3 : Nat)) := hc3
              have f3 : (wr.setCell ⟨N, m + 1, none⟩ (.int .i64 (q1 : Nat))).drew.frozen? ⟨N, m, none⟩ = false := hf3
              have R4 : Hid (Row ((wr.setCell ⟨N, m + 1, none⟩ (.int .i64 (q1 : Nat))).drew.setCell ⟨N, m, none⟩ (.int .i64 (q2 : Nat))) N 3 (nf (F j (m + 1)) (j + 1 + 1))) := R3.out
              have Z4 : Hid (Row ((wr.setCell ⟨N, m + 1, none⟩ (.int .i64 (q1 : Nat))).drew.setCell ⟨N, m, none⟩ (.int .i64 (q2 : Nat))) Z 3 (nf (Zk j) (j + 1))) := Z3.out
              have E4 : Hid (Ext w1 ((wr.setCell ⟨N, m + 1, none⟩ (.int .i64 (q1 : Nat))).drew.setCell ⟨N, m, none⟩ (.int .i64 (q2 : Nat)))) := E3.out.drewN 1
              refine wp_region_mix 12 (fun W => W = (wr.setCell ⟨N, m + 1, none⟩ (.int .i64 (q1 : Nat))).drew) 13 (by rfl) (by kernel_rfl) ?_
              clear hc3 hf3 R3 Z3 E3 hc2 hf2 hcz
              generalize (wr.setCell ⟨N, m + 1, none⟩ (.int .i64 (q1 : Nat))).drew = W1 at *
              refine wpMix_take (v := .slice (some ⟨N, 0, none⟩) (j + 1 + 1) (j + 1 + 1)) 0 (by rfl) (by kernel_rfl) ⟨by rfl, ?_⟩ ?_
              · rintro W rfl
                go_simp
              refine wpMix_take (v := .int .i64 m) 1 (by rfl) (by kernel_rfl) ⟨by rfl, ?_⟩ ?_
              · rintro W rfl
                go_simp
              refine wpMix_take (v := .slice (some ⟨N, 0, none⟩) (j + 1 + 1) (j + 1 + 1)) 2 (by rfl) (by kernel_rfl) ⟨by rfl, ?_⟩ ?_
              · rintro W rfl
                go_simp
              refine wpMix_take (v := .int .i64 m) 3 (by rfl) (by kernel_rfl) ⟨by rfl, ?_⟩ ?_
              · rintro W rfl
                go_simp
              refine wpMix_take (v := .pointer (some ⟨N, m, none⟩)) 4 (by rfl) (by kernel_rfl) ⟨by rfl, ?_⟩ ?_
              · rintro W rfl
                go_simp
                intro h; omega
              refine wpMix_take (v := .int .i64 (q3 : Nat)) 5 (by rfl) (by kernel_rfl) ⟨by rfl, ?_⟩ ?_
              · rintro W rfl
                go_simp
              refine wpMix_take (v := .int .i64 (q6 : Nat)) 6 (by rfl) (by kernel_rfl) ⟨by rfl, ?_⟩ ?_
              · rintro W rfl
                go_simp
              refine wpMix_take (v := .int .i64 (P j : Nat)) 7 (by rfl) (by kernel_rfl) ⟨by rfl, ?_⟩ ?_
              · rintro W rfl
                go_simp
              refine wpMix_take (v := .int .i64 ((P j : Int) + 1)) 8 (by rfl) (by kernel_rfl) ⟨by rfl, ?_⟩ ?_
              · rintro W rfl
                go_simp
                exact IntWalk.i64_in _ (by omega)
              refine wpMix_only 9 (by kernel_rfl) (fun _ => rfl) ?_
              refine mOp_call (f := 30) (args := #[.int .i64 (q6 : Nat), .int .i64 ((P j : Int) + 1)]) (w' := W1) (by rfl) (by rfl) ?_ ?_
              · go_simp
              refine (mx.out W1).mono ?_
              rintro e w5 ⟨rfl, hh⟩
              have hh := hh.symm
              subst hh
              refine ⟨_, rfl, ?_⟩
              refine wpMix_take (v := .int .i64 (q2 : Nat)) 10 (by rfl) (by kernel_rfl) ⟨by rfl, ?_⟩ ?_
              · rintro W rfl
                go_simp
              refine wpMix_take (v := .pointer (some ⟨N, m, none⟩)) 11 (by rfl) (by kernel_rfl) ⟨by rfl, ?_⟩ ?_
              · rintro W rfl
                go_simp
                intro h; omega
              refine wpMix_last 12 (by kernel_rfl) (by kernel_rfl) (by rfl) (by rfl) (fun _ => rfl) (w' := W1.setCell ⟨N, m, none⟩ (.int .i64 (q2 : Nat))) ?_ (fun h => by cases h) ?_
              · go_simp
              generalize W1.setCell ⟨N, m, none⟩ (.int .i64 (q2 : Nat)) = W2 at *
              simp only [Act.put, List.setIfInBounds_toArray, List.set_cons_zero, List.set_cons_succ]
              go_wp2
              go_roundg (j + 1 - (m + 1))
              case measure => omega
              case rel => exact ⟨m + 1, by omega, by omega, by go_num, E4.out, R4.out, Z4.out⟩
            · obtain rfl : m = j + 1 := by omega
              have Rn : Hid (Row wr N 3 (nf (Zk (j + 1)) (j + 1 + 1))) := by
                have := R.out
                rw [nf_congr (fun i hi => FE.out j i (by omega) hi)] at this
                exact this
              have En : Hid (Ext w1 wr) := E.out
              clear E R RZ
              go_wp2
              go_roundg (k - (j + 1))
              case measure => omega
              case rel => exact ⟨j + 1, N, by omega, by omega, by go_num, rfl, hNl, En.out, Rn.out⟩
        · obtain rfl : j = k := by omega
          have O2 : Hid (OwnN w wr (.slice oa j oc) (zl (nl (D j) j))) := O1.out.ext E.out
          have hRZ : Hid (Row wr Z 3 (nf (Zk j) (j + 1))) := RZ.out
          have hcl := (E1.out.trans E.out).cell (LC.out j hlt)
          have hPl := HL.out j hlt
          have hPz : (P j : Int) < (ylen : Int) := by omega
          have hP15 := low.out j hlt
          have hbZ := hob.out Z hZ
          clear E RZ hob O1
          have qD : Hid (Calls Tryd.prog 31 #[.slice oa j oc, .int .i64 ((P j : Int) + 1)] wr.drew fun e w' => e = .returned (.int .i64 (Ed j : Nat)) ∧ w' = wr.drew) := SD.out j _ _ hlt (O2.out.ext (ext_drew _))
          have qZ : Hid (Calls Tryd.prog 31 #[.slice (some ⟨Z, 0, none⟩) (j + 1) (j + 1), .int .i64 ((P j : Int) + 1)] wr.drew fun e w' => e = .returned (.int .i64 (Ea j : Nat)) ∧ w' = wr.drew) := SA.out j Z _ hlt (hRZ.out.ext (ext_drew _))
          have qI : Hid (Calls Tryd.prog 32 #[.int .i64 (Ea j : Nat)] wr.drew fun e w' => e = .returned (.int .i64 (Ik j : Nat)) ∧ w' = wr.drew) := IV.out j _ hlt
          have qM : Hid (Calls Tryd.prog 30 #[.int .i64 (Xk j : Nat), .int .i64 (Ik j : Nat)] wr.drew fun e w' => e = .returned (.int .i64 (Mk j : Nat)) ∧ w' = wr.drew) := PR.out j _ hlt
          have xl := XL.out j hlt
          have O3 : Hid (OwnN w wr.drew (.slice oa j oc) (zl (nl (D j) j))) := O2.out.ext (ext_drew _)
          have RZ3 : Hid (Row wr.drew Z 3 (nf (Zk j) (j + 1))) := hRZ.out.ext (ext_drew _)
          have pmj : Hid (∀ i W, Calls Tryd.prog 30 #[.int .i64 (Zk j i : Nat), .int .i64 (Mk j : Nat)] W fun e w' => e = .returned (.int .i64 (Gk j i : Nat)) ∧ w' = W) := fun i W => PM.out j i W hlt
          have xmj : Hid (∀ i, bits BinOp.xor IntKind.i64 (D j i : Int) (Gk j i : Nat) = ((D (j + 1) i : Nat) : Int)) := fun i => XM.out j i hlt
          have dzj : Hid (D j j = 0) := DZ.out j hlt
          clear SD SA IV XL PR PM XM DZ F0 FH HF FE XF XH MX MK O2 hRZ LC PC HL low E1
          go_upto_region 18 with fail
          go_cut [14] (fun s14 wx => s14 = .int .i64 (Mk j : Nat) ∧ wx = wr.drew)
          case first =>
            have kl : wr.drew.cell? ⟨b, o + P j, none⟩ = some (.int .i64 (Ld j : Nat)) := hcl
            refine wp_region_mix 15 (fun W => W = wr.drew) 16 (by rfl) (by kernel_rfl) ?_
            generalize wr.drew = W1 at *
            refine wpMix_take (v := .slice (some ⟨b, o, none⟩) ylen yc) 0 (by rfl) (by kernel_rfl) ⟨by rfl, ?_⟩ ?_
            · rintro W rfl
              go_simp
            refine wpMix_take (v := .int .i64 (P j : Nat)) 1 (by rfl) (by kernel_rfl) ⟨by rfl, ?_⟩ ?_
            · rintro W rfl
              go_simp
            refine wpMix_take (v := .pointer (some ⟨b, o + P j, none⟩)) 2 (by rfl) (by kernel_rfl) ⟨by rfl, ?_⟩ ?_
            · rintro W rfl
              go_simp
            refine wpMix_take (v := .int .i64 (Ld j : Nat)) 3 (by rfl) (by kernel_rfl) ⟨by rfl, ?_⟩ ?_
            · rintro W rfl
              go_simp
            refine wpMix_take (v := .slice oa j oc) 4 (by rfl) (by kernel_rfl) ⟨by rfl, ?_⟩ ?_
            · rintro W rfl
              go_simp
            refine wpMix_take (v := .int .i64 (P j : Nat)) 5 (by rfl) (by kernel_rfl) ⟨by rfl, ?_⟩ ?_
            · rintro W rfl
              go_simp
            refine wpMix_take (v := .int .i64 ((P j : Int) + 1)) 6 (by rfl) (by kernel_rfl) ⟨by rfl, ?_⟩ ?_
            · rintro W rfl
              go_simp
              exact IntWalk.i64_in _ (by omega)
            refine wpMix_take (v := .slice (some ⟨Z, 0, none⟩) (j + 1) (j + 1)) 9 (by rfl) (by kernel_rfl) ⟨by rfl, ?_⟩ ?_
            · rintro W rfl
              go_simp
            refine wpMix_take (v := .int .i64 (P j : Nat)) 10 (by rfl) (by kernel_rfl) ⟨by rfl, ?_⟩ ?_
            · rintro W rfl
              go_simp
            refine wpMix_take (v := .int .i64 ((P j : Int) + 1)) 11 (by rfl) (by kernel_rfl) ⟨by rfl, ?_⟩ ?_
            · rintro W rfl
              go_simp
              exact IntWalk.i64_in _ (by omega)
            refine wpMix_only 7 (by kernel_rfl) (fun _ => rfl) ?_
            refine mOp_call (f := 31) (args := #[.slice oa j oc, .int .i64 ((P j : Int) + 1)]) (w' := W1) (by rfl) (by rfl) ?_ ?_
            · go_simp
            refine (qD.out).mono ?_
            rintro e w5 ⟨rfl, hh⟩
            have hh := hh.symm
            subst hh
            refine ⟨_, rfl, ?_⟩
            refine wpMix_take (v := .int .i64 (Xk j : Nat)) 8 (by rfl) (by kernel_rfl) ⟨by rfl, ?_⟩ ?_
            · rintro W rfl
              go_simp
            refine wpMix_only 12 (by kernel_rfl) (fun _ => rfl) ?_
            refine mOp_call (f := 31) (args := #[.slice (some ⟨Z, 0, none⟩) (j + 1) (j + 1), .int .i64 ((P j : Int) + 1)]) (w' := W1) (by rfl) (by rfl) ?_ ?_
            · go_simp
            refine (qZ.out).mono ?_
            rintro e w5 ⟨rfl, hh⟩
            have hh := hh.symm
            subst hh
            refine ⟨_, rfl, ?_⟩
            refine wpMix_only 13 (by kernel_rfl) (fun _ => rfl) ?_
            refine mOp_call (f := 32) (args := #[.int .i64 (Ea j : Nat)]) (w' := W1) (by rfl) (by rfl) ?_ ?_
            · go_simp
            refine (qI.out).mono ?_
            rintro e w5 ⟨rfl, hh⟩
            have hh := hh.symm
            subst hh
            refine ⟨_, rfl, ?_⟩
            refine wpMix_only 14 (by kernel_rfl) (fun _ => rfl) ?_
            refine mOp_call (f := 30) (args := #[.int .i64 (Xk j : Nat), .int .i64 (Ik j : Nat)]) (w' := W1) (by rfl) (by rfl) ?_ ?_
            · go_simp
            refine (qM.out).mono ?_
            rintro e w5 ⟨rfl, hh⟩
            have hh := hh.symm
            subst hh
            refine ⟨_, rfl, ?_⟩
            refine wpMix_lastv (v := .int .i64 (Mk j : Nat)) 15 (by kernel_rfl) (by kernel_rfl) (by rfl) (by rfl) (fun _ => rfl) (w' := W1) ?_ (fun _ => rfl) ?_
            · go_simp
            simp only [Act.put, List.setIfInBounds_toArray, List.set_cons_zero, List.set_cons_succ]
            go_wp2_with fail
            go_meet
            case rel => exact ⟨rfl, rfl⟩
          case rest =>
            obtain ⟨rfl, rfl⟩ := hcut
            clear qD qZ qI qM xl hcl
            have HS : Hid (zl (nl (D j) j) ++ [((0 : Nat) : Int)] = zl (nl (D j) (j + 1))) := by rw [Hid, nl_snoc, dzj.out]; simp
            have LZ : Hid ((zl (nl (D j) j)).length + 1 ≤ 1000000) := by rw [Hid, zl_len, nl_len]; omega
            generalize wr.drew = w3 at *
            go_wp2_with (at_builtin; refine wpList_appendNumB rfl _ _ rfl w _ (.slice oa j oc) rfl (zl (nl (D j) j)) O3.out (((0 : Nat) : Int)) rfl (by have := LZ.out; omega) ?_; intro v2 w4 O4 KB4 S4)
            have RZ4 := KB4 Z _ _ RZ3.out hbZ
            rw [HS.out] at O4
            obtain ⟨g, cap, rest, rfl, hg, hcg, hmg, RG, hrl⟩ := O4.rowF (by omega)
            have hgZ : g ≠ Z := fun e => RZ4.2 (by rw [e]; rfl)
            have R4 : Hid (Row w4 g 3 (nf (D j) (j + 1) ++ rest)) := RG
            have Z4 : Hid (Row w4 Z 3 (nf (Zk j) (j + 1))) := RZ4.1
            have E4 : Hid (Ext w w4) := O4.1
            clear KB4 RZ4 O4 O3 RZ3 HS LZ RG
            unfold maxLen at hmg
            go_wp2
            go_loopg [15, 16, 90] (j + 1) (fun g3 _ _ s90 wi => ∃ m : Nat, m ≤ j + 1 ∧ j + 1 - m ≤ g3 ∧ s90 = .int .i64 m ∧ Aside (Ext w wi) ∧ Aside (Row wi g 3 (nf (fun i => if i < m then D (j + 1) i else D j i) (j + 1) ++ rest)) ∧ Aside (Row wi Z 3 (nf (Zk j) (j + 1))))
            case atStart => exact ⟨0, by omega, by omega, rfl, E4.out, by
              rw [nf_congr (fun i _ => if_neg (Nat.not_lt_zero i))]
              exact R4.out, Z4.out⟩
            case round =>
              obtain ⟨m, hm, hg3, rfl, E, R, RZ⟩ := hrel
              clear E4 R4 Z4
              by_cases hlt3 : m < j + 1
              · have hltz3 : (m : Int) < (j : Int) + 1 := by omega
                have hcz := RZ.out.cellN m hlt3
                have hc2 : wr.cell? ⟨g, m, none⟩ = some (.int .i64 (D j m : Nat)) := by
                  have := R.out.cellR m hlt3
                  simpa using this
                have hf2 := R.out.fr m
                have xm := xmj.out m
                have pm2 : Hid (∀ W, Calls Tryd.prog 30 #[.int .i64 (Zk j m : Nat), .int .i64 (Mk j : Nat)] W fun e w' => e = .returned (.int .i64 (Gk j m : Nat)) ∧ w' = W) := fun W => pmj.out m W
                have R2 : Hid (Row (wr.drew.setCell ⟨g, m, none⟩ (.int .i64 (D (j + 1) m : Nat))) g 3 (nf (fun i => if i < m + 1 then D (j + 1) i else D j i) (j + 1) ++ rest)) := (R.out.ext (ext_drew _)).setR hlt3 _ _ (fun i _ => by
                  by_cases h : i = m
                  · subst h; simp
                  · rw [if_neg h]
                    by_cases h2 : i < m
                    · rw [if_pos h2, if_pos (by omega)]
                    · rw [if_neg h2, if_neg (by omega)])
                have Z2 : Hid (Row (wr.drew.setCell ⟨g, m, none⟩ (.int .i64 (D (j + 1) m : Nat))) Z 3 (nf (Zk j) (j + 1))) := (RZ.out.ext (ext_drew _)).other _ (by simpa using hgZ) _
                have E2 : Hid (Ext w (wr.drew.setCell ⟨g, m, none⟩ (.int .i64 (D (j + 1) m : Nat)))) := (E.out.trans (ext_drew _)).setCell (p := ⟨g, m, none⟩) hg _
                clear E R RZ xmj pmj dzj
                generalize D (j + 1) m = d1 at *
                generalize D j m = d0 at *
                generalize Gk j m = g1 at *
                generalize hzz : Zk j m = z1 at *
                generalize Mk j = m1 at *
                clear hzz
                go_wp2_with fail
                have k3 : wr.drew.cell? ⟨g, m, none⟩ = some (.int .i64 (d0 : Nat)) := hc2
                have f3 : wr.drew.frozen? ⟨g, m, none⟩ = false := hf2
                refine wp_region_mix 11 (fun W => W = wr.drew) 12 (by rfl) (by kernel_rfl) ?_
                clear hc2 hf2 hcz
                generalize wr.drew = W1 at *
                refine wpMix_take (v := .slice (some ⟨g, 0, none⟩) (j + 1) cap) 0 (by rfl) (by kernel_rfl) ⟨by rfl, ?_⟩ ?_
                · rintro W rfl
                  go_simp
                refine wpMix_take (v := .int .i64 m) 1 (by rfl) (by kernel_rfl) ⟨by rfl, ?_⟩ ?_
                · rintro W rfl
                  go_simp
                refine wpMix_take (v := .slice (some ⟨g, 0, none⟩) (j + 1) cap) 2 (by rfl) (by kernel_rfl) ⟨by rfl, ?_⟩ ?_
                · rintro W rfl
                  go_simp
                refine wpMix_take (v := .int .i64 m) 3 (by rfl) (by kernel_rfl) ⟨by rfl, ?_⟩ ?_
                · rintro W rfl
                  go_simp
                refine wpMix_take (v := .pointer (some ⟨g, m, none⟩)) 4 (by rfl) (by kernel_rfl) ⟨by rfl, ?_⟩ ?_
                · rintro W rfl
                  go_simp
                refine wpMix_take (v := .int .i64 (d0 : Nat)) 5 (by rfl) (by kernel_rfl) ⟨by rfl, ?_⟩ ?_
                · rintro W rfl
                  go_simp
                refine wpMix_take (v := .int .i64 (z1 : Nat)) 6 (by rfl) (by kernel_rfl) ⟨by rfl, ?_⟩ ?_
                · rintro W rfl
                  go_simp
                refine wpMix_take (v := .int .i64 (m1 : Nat)) 7 (by rfl) (by kernel_rfl) ⟨by rfl, ?_⟩ ?_
                · rintro W rfl
                  go_simp
                refine wpMix_only 8 (by kernel_rfl) (fun _ => rfl) ?_
                refine mOp_call (f := 30) (args := #[.int .i64 (z1 : Nat), .int .i64 (m1 : Nat)]) (w' := W1) (by rfl) (by rfl) ?_ ?_
                · go_simp
                refine (pm2.out W1).mono ?_
                rintro e w5 ⟨rfl, hh⟩
                have hh := hh.symm
                subst hh
                refine ⟨_, rfl, ?_⟩
                refine wpMix_take (v := .int .i64 (d1 : Nat)) 9 (by rfl) (by kernel_rfl) ⟨by rfl, ?_⟩ ?_
                · rintro W rfl
                  go_simp
                refine wpMix_take (v := .pointer (some ⟨g, m, none⟩)) 10 (by rfl) (by kernel_rfl) ⟨by rfl, ?_⟩ ?_
                · rintro W rfl
                  go_simp
                refine wpMix_last 11 (by kernel_rfl) (by kernel_rfl) (by rfl) (by rfl) (fun _ => rfl) (w' := W1.setCell ⟨g, m, none⟩ (.int .i64 (d1 : Nat))) ?_ (fun h => by cases h) ?_
                · go_simp
                generalize W1.setCell ⟨g, m, none⟩ (.int .i64 (d1 : Nat)) = W2 at *
                simp only [Act.put, List.setIfInBounds_toArray, List.set_cons_zero, List.set_cons_succ]
                go_wp2
                go_roundg (j + 1 - (m + 1))
                case measure => omega
                case rel => exact ⟨m + 1, by omega, by omega, by go_num, E2.out, R2.out, Z2.out⟩
              · obtain rfl : m = j + 1 := by omega
                have Rn : Hid (Row wr g 3 (nf (D (j + 1)) (j + 1) ++ rest)) := by
                  have := R.out
                  rw [nf_congr (fun i hi => if_pos hi)] at this
                  exact this
                have On : Hid (OwnN w wr (.slice (some ⟨g, 0, none⟩) (j + 1) cap) (zl (nl (D (j + 1)) (j + 1)))) := OwnN.of_rowF E.out hg Rn.out hrl (by unfold maxLen; omega)
                clear E R RZ Rn
                go_wp2
                go_roundg (K - (j + 1))
                case measure => omega
                case rel => exact ⟨j + 1, by omega, by omega, by go_num, On.out⟩
    · obtain rfl : k = K := by omega
      go_wp2
      go_ret
      exact ⟨_, rfl, O.out⟩

end Go.Proofs.YtjdipgkdaloclaaDoor
