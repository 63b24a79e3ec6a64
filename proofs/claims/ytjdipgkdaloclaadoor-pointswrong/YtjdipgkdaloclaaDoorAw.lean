/-
  points.awayAt: numbers that sum up to 0 at one place more.
-/
import Derived.Test.YtjdipgkdaloclaaDoorRw
import Derived.Test.YtjdipgkdaloclaaDoorPd
import Derived.Deep.RegionWith
namespace Go.Proofs.YtjdipgkdaloclaaDoor
open Go.RowKit

/-- What is laid when i rounds are over. -/
def awf (z : List Nat) (x i j : Nat) : Nat := if j < i then (mx x 0 z).getD j 0 else if j = i ∧ 0 < i then z.getD (i - 1) 0 else 0
/-- .. and when the first of both cells of a round is laid. -/
def awg (z : List Nat) (x i j : Nat) : Nat := if j < i + 1 then (mx x 0 z).getD j 0 else 0

theorem awf_zero (z : List Nat) (x j : Nat) : awf z x 0 j = 0 := by unfold awf; rw [if_neg (by omega), if_neg (by omega)]
theorem awg_next {z : List Nat} {x i : Nat} (hx : x < 16) (hi : i < z.length) (j : Nat) : awg z x i j = if j = i then awf z x i i ^^^ gm (z.getD i 0) x else awf z x i j := by
  unfold awg awf
  by_cases h : j = i
  · subst h
    rw [if_pos (by omega), if_pos rfl, if_neg (by omega), mx_at hx 0 z j (by omega), Nat.xor_comm]
    congr 1
    by_cases h0 : j = 0
    · rw [if_pos h0, if_neg (by omega)]
    · rw [if_neg h0, if_pos ⟨rfl, by omega⟩]
  · rw [if_neg h]
    by_cases h2 : j < i
    · rw [if_pos (by omega), if_pos h2]
    · rw [if_neg (by omega), if_neg h2, if_neg (by omega)]
theorem awf_next {z : List Nat} {x i : Nat} (j : Nat) : awf z x (i + 1) j = if j = i + 1 then awg z x i (i + 1) ^^^ z.getD i 0 else awg z x i j := by
  unfold awf awg
  by_cases h : j = i + 1
  · subst h
    rw [if_neg (by omega), if_pos ⟨rfl, by omega⟩, if_pos rfl, if_neg (by omega), Nat.zero_xor]
    rfl
  · rw [if_neg h]
    by_cases h2 : j < i + 1
    · rw [if_pos h2, if_pos h2]
    · rw [if_neg h2, if_neg (by omega), if_neg h2]
theorem awf_last {z : List Nat} {x : Nat} (hx : x < 16) (j : Nat) (hj : j < z.length + 1) : awf z x z.length j = (mx x 0 z).getD j 0 := by
  unfold awf
  by_cases h : j < z.length
  · rw [if_pos h]
  · have e : j = z.length := by omega
    subst e
    rw [if_neg (by omega), mx_at hx 0 z _ (Nat.le_refl _)]
    have : z.getD z.length 0 = 0 := by simp [List.getD_eq_getElem?_getD]
    rw [this, zero_gm hx, Nat.zero_xor]
    by_cases h0 : z.length = 0
    · rw [if_neg (by omega), if_pos h0]
    · rw [if_pos ⟨rfl, by omega⟩, if_neg h0]
theorem awf_lt {z : List Nat} {x i : Nat} (hx : x < 16) (hz : ∀ a ∈ z, a < 16) (j : Nat) : awf z x i j < 16 := by
  unfold awf
  split
  · exact getD_lt (mx_lt hx (by omega) hz) j
  · split
    · exact getD_lt hz _
    · omega
theorem awg_lt {z : List Nat} {x i : Nat} (hx : x < 16) (hz : ∀ a ∈ z, a < 16) (j : Nat) : awg z x i j < 16 := by
  unfold awg
  split
  · exact getD_lt (mx_lt hx (by omega) hz) j
  · omega

theorem away_any (z : List Nat) (hz : ∀ a ∈ z, a < 16) (hm : z.length ≤ 1000) (x : Nat) (hx : x < 16) (y : Nm) (hy : y.z = zl z) (w : World) (hw : Nums w y) :
    Calls Tryd.prog 29 #[y.v, .int .i64 x] w fun e w' => e = .returned (.slice (some ⟨w.heap.size, 0, none⟩) (z.length + 1 : Nat) (z.length + 1 : Nat)) ∧ Ext w w' ∧ Row w' w.heap.size 3 (nf (fun j => (mx x 0 z).getD j 0) (z.length + 1)) := by
  have hlen : y.z.length = z.length := by rw [hy, zl_len]
  have hwx : Hid (∀ W, Ext w W → Nums W y) := fun W E => hw.ext E
  obtain ⟨h1, h2, _, b, o, h3, h4⟩ := hw
  rw [hlen] at h1 h3 h4
  have HC : Hid (∀ i, i < z.length → w.cell? ⟨b, o + i, none⟩ = some (.int .i64 (z.getD i 0 : Nat))) := fun i hi => by
    rw [h4 i hi, hy, zl_at]
  have HA : Hid (0 < z.length → y.a = some ⟨b, o, none⟩) := h3
  have MU : Hid (∀ (i : Nat) W, Calls Tryd.prog 27 #[.int .i64 (z.getD i 0 : Nat), .int .i64 x] W fun e w' => e = .returned (.int .i64 (gm (z.getD i 0) x : Nat)) ∧ w' = W) := fun i W => product_any _ x (getD_lt hz i) hx W
  have G : Hid (∀ i j, i < z.length → awg z x i j = if j = i then awf z x i i ^^^ gm (z.getD i 0) x else awf z x i j) := fun i j hi => awg_next hx hi j
  have F : Hid (∀ i j, awf z x (i + 1) j = if j = i + 1 then awg z x i (i + 1) ^^^ z.getD i 0 else awg z x i j) := fun i j => awf_next j
  have FL : Hid (∀ j, j < z.length + 1 → awf z x z.length j = (mx x 0 z).getD j 0) := fun j hj => awf_last hx j hj
  have LF : Hid (∀ i j, awf z x i j < 16) := fun i j => awf_lt hx hz j
  have LG : Hid (∀ i j, awg z x i j < 16) := fun i j => awg_lt hx hz j
  have LM : Hid (∀ i, gm (z.getD i 0) x < 16) := fun i => gm_lt (getD_lt hz i) hx
  have LZ : Hid (∀ i, z.getD i 0 < 16) := fun i => getD_lt hz i
  have hmk : ∀ W : World, (Instr.makeSlice 22 (.int .i64 ((z.length : Int) + 1)) (.int .i64 ((z.length : Int) + 1))).run Tryd.prog W = .ok (.slice (some ⟨W.heap.size, 0, none⟩) (z.length + 1 : Nat) (z.length + 1 : Nat)) (W.alloc (.cells (madeCells #[.int .i64 0] (z.length + 1)) 3)) := fun W =>
    run_make_row' 22 3 (.int .i64 0) 8 Tryd.underlying22 info3 rfl .i64 .i64 (z.length + 1) (by omega) (by omega) W
  have R0 : Hid (Row (w.alloc (.cells (madeCells #[.int .i64 0] (z.length + 1)) 3)) w.heap.size 3 (nf (awf z x 0) (z.length + 1))) := Row.madeN w _ _ (fun i _ => awf_zero z x i)
  have E0 : Hid (Ext w (w.alloc (.cells (madeCells #[.int .i64 0] (z.length + 1)) 3))) := (Ext.refl w).alloc _
  clear h3 h4 hy h1 h2 hz hwx
  simp only [Nm.v]
  rw [hlen]
  clear hlen
  generalize y.a = ya at *
  generalize y.c = yc at *
  generalize awf z x = f at *
  generalize awg z x = g at *
  generalize (mx x 0 z) = M at *
  have ⟨Z, hZ⟩ : ∃ Z : Nat → Nat, Z = fun i => z.getD i 0 := ⟨_, rfl⟩
  have HC : Hid (∀ i, i < z.length → w.cell? ⟨b, o + i, none⟩ = some (.int .i64 (Z i : Nat))) := fun i hi => by rw [hZ]; exact HC.out i hi
  have MU : Hid (∀ (i : Nat) W, Calls Tryd.prog 27 #[.int .i64 (Z i : Nat), .int .i64 x] W fun e w' => e = .returned (.int .i64 (gm (Z i) x : Nat)) ∧ w' = W) := fun i W => by rw [hZ]; exact MU.out i W
  have G : Hid (∀ i j, i < z.length → g i j = if j = i then f i i ^^^ gm (Z i) x else f i j) := fun i j hi => by rw [hZ]; exact G.out i j hi
  have F : Hid (∀ i j, f (i + 1) j = if j = i + 1 then g i (i + 1) ^^^ Z i else g i j) := fun i j => by rw [hZ]; exact F.out i j
  have LM : Hid (∀ i, gm (Z i) x < 16) := fun i => by rw [hZ]; exact LM.out i
  have LZ : Hid (∀ i, Z i < 16) := fun i => by rw [hZ]; exact LZ.out i
  clear hZ
  generalize z.length = m at *
  go_enter Tryd.func29, Tryd.ntmps29
  go_wp2
  clear hmk
  generalize w.alloc (.cells (madeCells #[.int .i64 0] (m + 1)) 3) = w1 at *
  go_loopg [6, 7, 14] m (fun gg _ _ s wr => ∃ k : Nat, k ≤ m ∧ m - k ≤ gg ∧ s = .int .i64 k ∧ Aside (Ext w wr) ∧ Aside (Row wr w.heap.size 3 (nf (f k) (m + 1))))
  case atStart => exact ⟨0, by omega, by omega, rfl, E0.out, R0.out⟩
  case round =>
    obtain ⟨k, hk, hgg, rfl, E, R⟩ := hrel
    by_cases hlt : k < m
    · have hltz : (k : Int) < (m : Int) := by omega
      obtain rfl := HA.out (by omega)
      have hc1 := E.out.cell (HC.out k hlt)
      have hc2 := R.out.cellN k (by omega)
      have hf2 := R.out.fr k
      have k1 : Hid (∀ W, Calls Tryd.prog 27 #[.int .i64 (Z k : Nat), .int .i64 x] W fun e w' => e = .returned (.int .i64 (gm (Z k) x : Nat)) ∧ w' = W) := fun W => MU.out k W
      have e1 := xor_at (a := f k k) (b := gm (Z k) x) (by have := LF.out k k; omega) (by have := LM.out k; omega)
      have l1 := xor_lt (LF.out k k) (LM.out k)
      have R2 : Row (wr.setCell ⟨w.heap.size, k, none⟩ (.int .i64 (f k k ^^^ gm (Z k) x : Nat))) w.heap.size 3 (nf (g k) (m + 1)) := R.out.setN _ _ (fun j _ => G.out k j hlt)
      have E2 : Ext w (wr.setCell ⟨w.heap.size, k, none⟩ (.int .i64 (f k k ^^^ gm (Z k) x : Nat))) := E.out.setCell (p := ⟨w.heap.size, k, none⟩) (Nat.le_refl _) _
      have hc3 := R2.cellN (k + 1) (by omega)
      have hf3 := R2.fr (k + 1)
      have e2 := xor_at (a := g k (k + 1)) (b := Z k) (by have := LG.out k (k + 1); omega) (by have := LZ.out k; omega)
      have R3 : Hid (Row ((wr.setCell ⟨w.heap.size, k, none⟩ (.int .i64 (f k k ^^^ gm (Z k) x : Nat))).setCell ⟨w.heap.size, k + 1, none⟩ (.int .i64 (g k (k + 1) ^^^ Z k : Nat))) w.heap.size 3 (nf (f (k + 1)) (m + 1))) := R2.setN _ _ (fun j _ => F.out k j)
      have E3 : Hid (Ext w ((wr.setCell ⟨w.heap.size, k, none⟩ (.int .i64 (f k k ^^^ gm (Z k) x : Nat))).setCell ⟨w.heap.size, k + 1, none⟩ (.int .i64 (g k (k + 1) ^^^ Z k : Nat)))) := E2.setCell (p := ⟨w.heap.size, k + 1, none⟩) (Nat.le_refl _) _
      clear LM LF LG LZ MU R2 E2 G F FL HC R0 E0 E R
      generalize gm (Z k) x = GG at *
      generalize f k k ^^^ GG = Q1 at *
      generalize g k (k + 1) ^^^ Z k = Q2 at *
      go_wp2_with fail
      go_region_with (go_at_call 27; refine (k1.out _).mono ?_; rintro e w5 ⟨rfl, rfl⟩)
      all_goals
        go_wp2
        go_roundg (m - (k + 1))
        case measure => omega
        case rel => exact ⟨k + 1, by omega, by omega, by go_num, E3.out.drewN 1, R3.out.ext (ext_drew _)⟩
    · obtain rfl : k = m := by omega
      have Rn : Hid (Row wr w.heap.size 3 (nf (fun j => M.getD j 0) (k + 1))) := by
        have := R.out
        rw [nf_congr (fun j hj => FL.out j hj)] at this
        exact this
      go_wp2
      go_ret
      exact ⟨by simp, E.out, Rn.out⟩

end Go.Proofs.YtjdipgkdaloclaaDoor
