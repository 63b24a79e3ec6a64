/-
  rest.Rest, rest.Put, rest.Get.
-/
import Derived.Test.YtfngcoijbnhheaaRs
import Derived.Test.YtfngcoijbnhheaaRw
import Derived.Laws.CopyOwn
import Derived.Lib.RabinKarpLaws
namespace Go.Proofs.Ytfngcoijbnhheaa
open Go.RowKit
set_option linter.unusedVariables false

theorem Rest_bad (g : Nat) (hg : g < 4294967296) (x : Wd) (c : Int) (hc : rce g x.l.length = c) (h : c ≠ 0) (w : World) : Calls Try.prog 27 #[.int .u32 g, x.v] w fun e w' => e = .returned (.tuple #[.int .u32 0, .int .i64 c]) ∧ w' = w := by
  have c1 := check_any g hg x.a x.l.length x.c w
  rw [hc] at c1
  simp only [Wd.v]
  generalize x.l.length = n at *
  clear hc
  go_enter Try.func27, Try.ntmps27
  go_wp2_with fail
  refine c1.mono ?_
  rintro e w1 ⟨rfl, rfl⟩
  clear c1
  go_wp2
  go_ret2
  exact ⟨rfl, rfl⟩

theorem Rest_good (g : Nat) (x : Wd) (hg : G g) (hl : x.l.length ≤ 64) (h : rce g x.l.length = 0) (w : World) (hx : Bits w x) : Calls Try.prog 27 #[.int .u32 g, x.v] w fun e w' => e = .returned (.tuple #[.int .u32 (rs g x.l : Nat), .int .i64 0]) ∧ w' = w := by
  have hg1 : g ≤ 131071 := hg.2.2
  have c1 := check_any g (by omega) x.a x.l.length x.c w
  rw [h] at c1
  have c2 := restOf_any g hg x (by omega) w hx
  simp only [Wd.v] at *
  generalize rs g x.l = r at *
  generalize x.l.length = n at *
  clear h hx
  go_enter Try.func27, Try.ntmps27
  go_wp2_with fail
  refine c1.mono ?_
  rintro e w1 ⟨rfl, rfl⟩
  clear c1
  go_wp2_with fail
  refine c2.mono ?_
  rintro e w1 ⟨rfl, rfl⟩
  clear c2
  go_wp2
  go_ret2
  exact ⟨rfl, rfl⟩

theorem Put_bad (g : Nat) (hg : g < 4294967296) (x : Wd) (c : Int) (hc : rce g x.l.length = c) (h : c ≠ 0) (w : World) : Calls Try.prog 14 #[.int .u32 g, x.v] w fun e w' => e = .returned (.tuple #[.slice none 0 0, .int .i64 c]) ∧ w' = w := by
  have c1 := check_any g hg x.a x.l.length x.c w
  rw [hc] at c1
  simp only [Wd.v]
  generalize x.l.length = n at *
  clear hc
  go_enter Try.func14, Try.ntmps14
  go_wp2_with fail
  refine c1.mono ?_
  rintro e w1 ⟨rfl, rfl⟩
  clear c1
  go_wp2
  go_ret2
  exact ⟨rfl, rfl⟩

theorem Put_large (g : Nat) (x : Wd) (hg : G g) (h : rce g x.l.length = 0) (hl : 64 < x.l.length + g.log2) (hl2 : x.l.length ≤ 64) (w : World) : Calls Try.prog 14 #[.int .u32 g, x.v] w fun e w' => e = .returned (.tuple #[.slice none 0 0, .int .i64 1]) ∧ w' = w := by
  have hg1 : g ≤ 131071 := hg.2.2
  have hd := hg.deg
  have c1 := check_any g (by omega) x.a x.l.length x.c w
  rw [h] at c1
  have c2 := degreeOf_any g (by obtain ⟨_, h, _⟩ := hg; omega) (by omega) w
  simp only [Wd.v]
  generalize x.l.length = n at *
  generalize g.log2 = d at *
  clear h
  have hz : (64 : Int) < (n : Int) + (d : Int) := by omega
  go_enter Try.func14, Try.ntmps14
  go_wp2_with fail
  refine c1.mono ?_
  rintro e w1 ⟨rfl, rfl⟩
  clear c1
  go_wp2_with fail
  refine c2.mono ?_
  rintro e w1 ⟨rfl, rfl⟩
  clear c2
  go_wp2
  go_ret2
  exact ⟨rfl, rfl⟩

theorem size4 : (Try.prog.info? 4).map (·.size) = some 1 := by kernel_rfl

/-- The cells once the first k powers are laid behind n bits. -/
def pc (x m : Nat) (f : Nat → Bool) (k j : Nat) : Bool := if j + k < m then f j else x.testBit (m - 1 - j)
theorem pc_next {x m : Nat} {f : Nat → Bool} {k : Nat} (hk : k < m) (j : Nat) (hj : j < m) : pc x m f (k + 1) j = if j = m - 1 - k then x.testBit k else pc x m f k j := by
  unfold pc
  by_cases h : j = m - 1 - k
  · rw [if_pos h, if_neg (by omega), show m - 1 - j = k by omega]
  · rw [if_neg h]
    by_cases h2 : j + k < m
    · rw [if_pos h2, if_pos (by omega)]
    · rw [if_neg h2, if_neg (by omega)]
theorem pc_end (g : Nat) (l : List Bool) : bl (pc (rs g (l ++ List.replicate g.log2 false)) (l.length + g.log2) (fun i => (l ++ List.replicate g.log2 false).getD i false) g.log2) (l.length + g.log2) = pt g l := by
  apply List.ext_getElem
  · rw [bl_len, pt_len]
  · intro i h1 h2
    have a : ∀ (m : List Bool) (h : i < m.length), m[i] = m.getD i false := fun m h => by simp [List.getD_eq_getElem?_getD, h]
    rw [bl_len] at h1
    rw [a _ (by rw [bl_len]; exact h1), bl_at _ h1, a _ h2]
    unfold pc pt
    show (if i + g.log2 < l.length + g.log2 then (l ++ List.replicate g.log2 false).getD i false else _) = _
    rw [app_at, app_at]
    by_cases h : i < l.length
    · rw [if_pos (by omega), if_pos h, if_pos h]
    · rw [if_neg (by omega), if_neg h, dg_at _ _ _ (by omega)]
      congr 1
      omega

theorem shr_one (x j : Nat) (hx : x < 65536) : (bits BinOp.and IntKind.u32 ((x : Int) / 2 ^ j) 1 == 1) = x.testBit j := by
  have e : (x : Int) / 2 ^ j = ((x / 2 ^ j : Nat) : Int) := by simp
  have hl : x / 2 ^ j ≤ x := Nat.div_le_self _ _
  rw [e, and_one32 _ (by omega), Nat.testBit_eq_decide_div_mod_eq, Bool.eq_iff_iff, beq_iff_eq, decide_eq_true_eq]
  omega

set_option maxHeartbeats 2000000 in
theorem Put_good (g : Nat) (x : Wd) (hg : G g) (h : rce g x.l.length = 0) (hl : x.l.length + g.log2 ≤ 64) (w : World) (hx : Bits w x) : Calls Try.prog 14 #[.int .u32 g, x.v] w fun e w' => ∃ d : Wd, e = .returned (.tuple #[d.v, .int .i64 0]) ∧ d.l = pt g x.l ∧ Bits w' d ∧ Ext w w' := by
  have hg1 : g ≤ 131071 := hg.2.2
  have hd := hg.deg
  have c1 := check_any g (by omega) x.a x.l.length x.c w
  rw [h] at c1
  have c2 := degreeOf_any g (by obtain ⟨_, h, _⟩ := hg; omega) (by omega) w
  obtain ⟨a, c, l⟩ := x
  obtain ⟨h1, h2, _, b, o, h4, h5⟩ := hx
  simp only at h1 h2 h4 h5 hl c1
  simp only [Wd.v] at *
  obtain ⟨r, hr⟩ : ∃ r, rs g (l ++ List.replicate g.log2 false) = r := ⟨_, rfl⟩
  have hr16 : r < 65536 := by rw [← hr]; exact rs_small hg _
  obtain ⟨m, hm⟩ : ∃ m, l.length + g.log2 = m := ⟨_, rfl⟩
  obtain ⟨F, hF⟩ : ∃ F : Nat → Nat → Bool, ∀ k j, F k j = pc r m (fun i => (l ++ List.replicate g.log2 false).getD i false) k j := ⟨_, fun _ _ => rfl⟩
  have FE : bl (F g.log2) m = pt g l := by
    rw [← pc_end, hr, hm]
    exact bl_congr (fun i _ => hF _ i)
  have FN : Hid (∀ k j, k < m → j < m → F (k + 1) j = if j = m - 1 - k then r.testBit k else F k j) := fun k j hk hj => by rw [hF, hF]; exact pc_next hk j hj
  have F0 : l ++ List.replicate g.log2 false = bl (F 0) m := by
    have := bl_self (l ++ List.replicate g.log2 false)
    rw [List.length_append, List.length_replicate, hm] at this
    rw [← this]
    refine bl_congr (fun i hi => ?_)
    rw [hF]
    unfold pc
    rw [if_pos (by omega)]
  have RO : Hid (∀ B W, RB W B (bl (F 0) m) [] → Calls Try.prog 23 #[.int .u32 g, .slice (some ⟨B, 0, none⟩) m m] W fun e w' => e = .returned (.int .u32 r) ∧ w' = W) := fun B W hR => by
    have hb := hR.bits (cap := m) (by rw [bl_len]; rfl) (by unfold maxLen; omega)
    have := restOf_any g hg _ (by show (bl (F 0) _).length ≤ 1000; rw [bl_len]; omega) W hb
    simp only [Wd.v, bl_len] at this
    rw [← F0, hr] at this
    exact this
  have SP : Hid (splice (List.replicate m (Value.bool false)) 0 (bv l) = bv (bl (F 0) m)) := by
    show _ = _
    rw [← F0, ← hm]
    unfold splice bv
    simp
  have HL : Hid ((bv l).length = l.length) := List.length_map ..
  have HC : Hid (∀ j v, (bv l)[j]? = some v → w.cell? ⟨b, o + j, none⟩ = some v) := fun j v hj => by
    have hj' : j < l.length := by
      rcases Nat.lt_or_ge j l.length with h' | h'
      · exact h'
      · rw [List.getElem?_eq_none (by simpa using h')] at hj; cases hj
    rw [h5 j hj']
    simp [hj'] at hj
    simp [List.getD_eq_getElem?_getD, hj', hj]
  have HV : Hid (∀ v ∈ bv l, v.oneCell' = true) := fun u hu => by
    obtain ⟨q, _, rfl⟩ := List.mem_map.1 hu
    rfl
  rw [← FE]
  have hmk := run_make_row' (P := Try.prog) 22 4 (.bool false) 1 Try.underlying22 info4 rfl .i64 .i64 m (by omega) (by omega)
  have st : Hid (∃ W, W = w.alloc (.cells (madeCells #[.bool false] m) 4) ∧ Ext w W ∧ W.heap[w.heap.size]? = some (.cells (List.replicate m (Value.bool false)).toArray 4 (0, 0))) :=
    ⟨_, rfl, (Ext.refl w).alloc _, Row.made w 4 (.bool false) _⟩
  obtain ⟨L, hL⟩ : ∃ L, L = bv l := ⟨_, rfl⟩
  rw [← hL] at SP HL HC HV
  clear h5 hr hF FE F0 h hL
  generalize l.length = n at *
  generalize g.log2 = d at *
  unfold maxLen at h2
  have hz : ¬ (64 : Int) < (n : Int) + (d : Int) := by omega
  have hmz : (n : Int) + (d : Int) = (m : Int) := by omega
  go_enter Try.func14, Try.ntmps14
  go_wp2_with fail
  refine c1.mono ?_
  rintro e w1 ⟨rfl, rfl⟩
  clear c1
  go_wp2_with fail
  refine c2.mono ?_
  rintro e w1 ⟨rfl, rfl⟩
  clear c2
  obtain ⟨W, hW, hE, hR⟩ := st.out
  have HE : Hid (Ext w1 W) := hE
  have HR : Hid (W.heap[w1.heap.size]? = some (.cells (List.replicate m (Value.bool false)).toArray 4 (0, 0))) := hR
  clear st hE hR
  have hnm : n ≤ m := by omega
  have HP : Hid (0 < L.length → ∃ ad, a = some ad ∧ ∀ j v, L[j]? = some v → W.cell? (ad.add j) = some v) := fun h0 => by
    rw [HL.out] at h0
    refine ⟨⟨b, o, none⟩, h4 h0, fun j v hj => ?_⟩
    rw [Addr.add_lit]
    exact HE.out.cell (HC.out j v hj)
  have HQ : Hid (L.length = Nat.min n m) := by show _ = _; rw [HL.out]; exact (Nat.min_eq_left hnm).symm
  have HT : Hid (0 + L.length ≤ (List.replicate m (Value.bool false)).length) := by show _ ≤ _; rw [HL.out, List.length_replicate]; omega
  clear h4 HC HL
  go_wp2_with (rw [← hW]; clear hW hmk; refine wpList_copy_splice rfl _ _ 22 22 rfl 4 Try.underlying22 size4 _ _ m m n c (by rfl) (by rfl) w1.heap.size 0 (List.replicate m (.bool false)) 4 HR.out L HQ.out (fun h0 => ⟨rfl, HP.out h0⟩) HT.out HV.out w1.heap.size w1 HE.out (Nat.le_refl _) ?_; intro W2 HG HB2; have HR2 : Hid (RB W2 w1.heap.size (bl (F 0) m) []) := (by show Row _ _ _ _; rw [List.append_nil, ← SP.out]; exact HG.out); have HE2 : Hid (Ext w1 W2) := HB2; clear HG HB2 SP HR HE HV HP HQ HT)
  have c3 := RO.out _ W2 HR2.out
  clear RO
  go_wp2_with fail
  refine c3.mono ?_
  rintro e w3 ⟨rfl, rfl⟩
  clear c3
  have HR3 : Hid (Row w3 w1.heap.size 4 (bf (F 0) m)) := by
    have := HR2.out
    unfold RB at this
    rw [List.append_nil, ← bf_bv] at this
    exact this
  clear HR2
  go_wp2
  go_loopg [10, 36] d (fun gg s10 s36 wr => ∃ k : Nat, k ≤ d ∧ d - k ≤ gg ∧ s36 = .int .i64 k ∧ Aside (Ext w1 wr) ∧ Aside (Row wr w1.heap.size 4 (bf (F k) m)))
  case atStart => exact ⟨0, Nat.zero_le _, by omega, rfl, HE2.out, HR3.out⟩
  case round =>
    obtain ⟨k, hk, hgg, rfl, E, X⟩ := hrel
    by_cases hlt : k < d
    · have hltz : (k : Int) < (d : Int) := by omega
      have e1 := X.out.cellF (m - 1 - k) (by omega)
      have f1 := X.out.fr (m - 1 - k)
      have sb := shr_one r k hr16
      have nX : Hid (Row (wr.setCell ⟨w1.heap.size, m - 1 - k, none⟩ (.bool (r.testBit k))) w1.heap.size 4 (bf (F (k + 1)) m)) := X.out.setF _ _ (fun j hj => by
        show Value.bool _ = _
        rw [FN.out k j (by omega) hj]
        by_cases e : j = m - 1 - k
        · rw [if_pos e, if_pos e]
        · rw [if_neg e, if_neg e])
      have nE : Hid (Ext w1 (wr.setCell ⟨w1.heap.size, m - 1 - k, none⟩ (.bool (r.testBit k)))) := E.out.setCell (Nat.le_refl _) _
      clear FN X E HE2 HR3
      generalize F k (m - 1 - k) = u0 at *
      generalize r.testBit k = tb at *
      go_wp2
      go_roundg (d - (k + 1))
      case measure => omega
      case rel => exact ⟨k + 1, by omega, by omega, by go_num, nE.out, nX.out⟩
    · obtain rfl : k = d := by omega
      have hltz : ¬ (k : Int) < (k : Int) := by omega
      have O : Hid (Bits wr ⟨some ⟨w1.heap.size, 0, none⟩, m, bl (F k) m⟩) := by
        have h := X.out
        rw [bf_bv] at h
        have := h.bits (by rw [bl_len]; unfold maxLen; omega)
        rw [bl_len] at this
        exact this
      clear FN X HE2 HR3
      go_wp2
      go_ret2
      exact ⟨⟨some ⟨w1.heap.size, 0, none⟩, m, bl (F k) m⟩, by simp only [bl_len]; rfl, rfl, O.out, E.out⟩

end Go.Proofs.Ytfngcoijbnhheaa
