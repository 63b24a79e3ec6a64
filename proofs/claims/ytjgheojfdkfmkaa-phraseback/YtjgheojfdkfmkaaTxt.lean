/-
  phrase.texts: the text of each phrase.
-/
import Derived.Test.YtjgheojfdkfmkaaLw
import Derived.Test.YtjgheojfdkfmkaaMix
import Derived.Test.YtjgheojfdkfmkaaSame
import Derived.Deep.DeepCutAuto
namespace Go.Proofs.Ytjgheojfdkfmkaa
open Go.RowKit

/-- The texts of the first i phrases, in memory. -/
def TM (g : List (Int × Int)) (w wr : World) (v : Value) (i : Nat) : Prop := ∃ X, LW w wr v X ∧ X.map (·.l) = tx (g.take i)

theorem TM.len {g : List (Int × Int)} {w wr : World} {a : Option Addr} {m c i : Nat} (h : TM g w wr (.slice a m c) i) (hi : i ≤ g.length) : m = i + 1 := by
  obtain ⟨X, hX, hT⟩ := h
  have := congrArg List.length hT
  rw [List.length_map, tx_length, List.length_take, hX.w.len] at this
  omega

theorem two_cells (W : World) (u v : Value) : (W.alloc (.cells #[u, v] 22)).cell? ⟨W.heap.size, 0, none⟩ = some u ∧ (W.alloc (.cells #[u, v] 22)).cell? ⟨W.heap.size, 1, none⟩ = some v := by
  constructor <;> rw [cell_of_row _ _ _ _ 22 (0, 0) (heap_alloc_new _ _)] <;> rfl

/-- Two words in a row. -/
theorem wds_two {W : World} {x y : Wd} {B : Nat} (hx : Bits W x) (hy : Bits W y) (h1 : W.cell? ⟨B, 0, none⟩ = some x.v) (h2 : W.cell? ⟨B, 1, none⟩ = some y.v) : Wds W (some ⟨B, 0, none⟩) 2 [x, y] := by
  refine ⟨by simp, by simp [maxLen], fun z hz => ?_, B, 0, fun _ => rfl, fun i hi => ?_⟩
  · simp only [List.mem_cons, List.not_mem_nil, or_false] at hz
    rcases hz with rfl | rfl
    · exact hx
    · exact hy
  · simp only [List.length_cons, List.length_nil] at hi
    obtain rfl | rfl : i = 0 ∨ i = 1 := by omega
    · exact h1
    · exact h2

theorem bits_one (W : World) (b : Int) : Bits (W.alloc (.cells #[.int .u8 b] 5)) ⟨some ⟨W.heap.size, 0, none⟩, 1, [b]⟩ := by
  refine ⟨by simp, by simp [maxLen], by simp, W.heap.size, 0, fun _ => rfl, fun i hi => ?_⟩
  simp only [List.length_cons, List.length_nil] at hi
  obtain rfl : i = 0 := by omega
  rw [cell_of_row _ _ _ _ 5 (0, 0) (heap_alloc_new _ _)]
  rfl

theorem take_succ_getDP {g : List (Int × Int)} {s : Nat} (h : s < g.length) : g.take (s + 1) = g.take s ++ [g.getD s (0, 0)] := by
  rw [List.take_succ_eq_append_getElem h]
  simp [List.getD_eq_getElem?_getD, h]

set_option maxHeartbeats 4000000 in
theorem texts_any (x : Pm) (w : World) (hx : Phs w x) (hv : Vd x.g) (hl : x.g.length ≤ 64) :
    Calls Try.prog 16 #[x.v] w fun e w' => ∃ v X, e = .returned v ∧ LW w w' v X ∧ X.map (·.l) = tx x.g := by
  obtain ⟨a, c, g⟩ := x
  obtain ⟨h1, h2, h0, b, o, h3, h4'⟩ := hx
  have h4 := Phs.cells h4'
  simp only [Pm.v] at *
  obtain ⟨n, hn⟩ : ∃ n, g.length = n := ⟨_, rfl⟩
  have HN : Hid (g.length = n) := hn
  have HV : Hid (Vd g) := hv
  have H4 : Hid (∀ i, i < n → w.cell? ⟨b, o + i * 2, none⟩ = some (.int .i64 (g.getD i (0, 0)).1) ∧ w.cell? ⟨b, o + i * 2 + 1, none⟩ = some (.int .u8 (g.getD i (0, 0)).2)) := fun i hi => h4 i (by rw [hn]; exact hi)
  rw [hn] at hl h3 h1 ⊢
  unfold maxLen at h2
  clear hn h4 h4' hv
  have M1 : Hid (TM g w (w.alloc (.cells #[.slice none 0 0] 22)) (.slice (some ⟨w.heap.size, 0, none⟩) 1 1) 0) := ⟨_, LW.one w, by simp [tx, txs]⟩
  go_enter Try.func16, Try.ntmps16
  go_wp2_with fail
  go_loopg [3, 5, 9] n (fun gg kv _ s wr => ∃ (k m kc : Nat) (ka : Option Addr), k ≤ n ∧ n - k ≤ gg ∧ s = .int .i64 k ∧ kv = .slice ka m kc ∧ Aside (TM g w wr (.slice ka m kc) k))
  case atStart => exact ⟨0, 1, 1, _, by omega, by omega, rfl, rfl, M1.out⟩
  case round =>
    obtain ⟨k, m, kc, ka, hk, hgg, rfl, rfl, A⟩ := hrel
    clear M1
    obtain rfl := A.out.len (by rw [HN.out]; exact hk)
    by_cases hlt : k < n
    · have hltz : (k : Int) < (n : Int) := by omega
      obtain rfl := h3 (by omega)
      obtain ⟨X, hX, hT⟩ := A.out
      obtain ⟨e1, e2⟩ := H4.out k hlt
      have e1 := hX.ext.cell e1
      have e2 := hX.ext.cell e2
      have hvk : 0 ≤ (g.getD k (0, 0)).1 ∧ (g.getD k (0, 0)).1 ≤ k := by
        have hkl : k < g.length := by rw [HN.out]; exact hlt
        have := HV.out k hkl
        simpa [List.getD_eq_getElem?_getD, hkl] using this
      have NT : Hid (tx (g.take (k + 1)) = tx (g.take k) ++ [(tx (g.take k)).getD (g.getD k (0, 0)).1.toNat [] ++ [(g.getD k (0, 0)).2]]) := by
        show _ = _
        rw [take_succ_getDP (by rw [HN.out]; exact hlt), tx_append]
      have HS : Hid (∀ y ∈ X, y.l.length ≤ 64) := fun y hy => by
        have : y.l ∈ tx (g.take k) := by rw [← hT]; exact List.mem_map_of_mem hy
        have := tx_short this
        rw [List.length_take] at this
        omega
      have hXl : X.length = k + 1 := hX.w.len
      generalize g.getD k (0, 0) = ph at *
      obtain ⟨p, y⟩ := ph
      simp only at e1 e2 hvk NT
      obtain ⟨j, rfl⟩ := Int.eq_ofNat_of_zero_le hvk.1
      have hjk : j ≤ k := by omega
      obtain ⟨G, rfl, hG⟩ := hX.w.at j (by omega)
      have HX : Hid (LW w wr (.slice (some ⟨G, 0, none⟩) (k + 1) kc) X) := hX
      have HT : Hid (X.map (·.l) = tx (g.take k)) := hT
      have HGJ : Hid (G < wr.heap.size) := World.block_lt_of_cell? _ _ hG
      have HXJ : Hid (LB wr X[j]) := hX.ok _ (List.getElem_mem _)
      have HXS : Hid (X[j].l.length ≤ 64) := HS.out _ (List.getElem_mem _)
      have NT2 : Hid (tx (g.take (k + 1)) = tx (g.take k) ++ [X[j].l ++ [y]]) := by
        show _ = _
        rw [NT.out, ← HT.out]
        simp [List.getD_eq_getElem?_getD, show j < X.length by omega]
      have HJX' : Hid (∃ z, z = X[j] ∧ ∃ h : j < X.length, X[j].v = z.v) := ⟨X[j], rfl, by omega, rfl⟩
      generalize hzz : X[j] = z at *
      have HJX0 : Hid (∃ h : j < X.length, X[j].v = z.v) := ⟨by omega, by rw [hzz]⟩
      clear hzz HJX'
      obtain ⟨za, zc, zl⟩ := z
      have HXL : Hid (X.length = k + 1) := hXl
      clear A hX hT NT hvk HS H4 hXl
      simp only [Wd.v] at hG
      obtain ⟨q, hq⟩ : ∃ q, zl.length = q := ⟨_, rfl⟩
      have HQ : Hid (Value.slice za q zc = Wd.v ⟨za, zc, zl⟩) := by show _ = _; rw [Wd.v, hq]
      rw [hq] at hG
      have HJX : Hid (∃ h : j < X.length, X[j].v = .slice za q zc) := by
        obtain ⟨h, e⟩ := HJX0.out
        exact ⟨h, by rw [e, ← hq]⟩
      clear hq HJX0
      go_upto_region 5 with fail
      have E0 : Hid (Ext wr (wr.alloc (.cells #[.int .i64 (j : Int), .int .u8 y] 35))) := (Ext.refl _).alloc _
      have c0 : (wr.alloc (.cells #[.int .i64 (j : Int), .int .u8 y] 35)).cell? ⟨wr.heap.size, 0, none⟩ = some (.int .i64 (j : Int)) := by rw [cell_of_row _ _ _ _ 35 (0, 0) (heap_alloc_new _ _)]; rfl
      have c1 : (wr.alloc (.cells #[.int .i64 (j : Int), .int .u8 y] 35)).cell? ⟨wr.heap.size, 1, none⟩ = some (.int .u8 y) := by rw [cell_of_row _ _ _ _ 35 (0, 0) (heap_alloc_new _ _)]; rfl
      have cG := E0.out.cell hG
      generalize wr.alloc (.cells #[.int .i64 (j : Int), .int .u8 y] 35) = W0 at *
      have CL : Hid (∀ W, Ext W0 W → W.cell? ⟨wr.heap.size, 0, none⟩ = some (.int .i64 (j : Int)) ∧ W.cell? ⟨wr.heap.size, 1, none⟩ = some (.int .u8 y) ∧ W.cell? ⟨G, j, none⟩ = some (.slice za q zc)) := fun W hW => ⟨hW.cell c0, hW.cell c1, hW.cell cG⟩
      have hjn : ¬ ((k : Int) + 1 ≤ (j : Int)) := by omega
      refine wp_region_mix (fun W => W.cell? ⟨wr.heap.size, 0, none⟩ = some (.int .i64 (j : Int)) ∧ W.cell? ⟨wr.heap.size, 1, none⟩ = some (.int .u8 y) ∧ W.cell? ⟨G, j, none⟩ = some (.slice za q zc)) 14 (by rfl) (by kernel_rfl) ?_
      refine wpMix_take (v := .slice (some ⟨G, 0, none⟩) (k + 1) kc) 0 (by rfl) (by kernel_rfl) ⟨by rfl, ?_⟩ ?_
      · rintro W -
        go_simp
      refine wpMix_take (v := .slice (some ⟨G, 0, none⟩) (k + 1) kc) 1 (by rfl) (by kernel_rfl) ⟨by rfl, ?_⟩ ?_
      · rintro W -
        go_simp
      refine wpMix_take (v := .pointer (some ⟨wr.heap.size, 0, none⟩)) 2 (by rfl) (by kernel_rfl) ⟨by rfl, ?_⟩ ?_
      · rintro W -
        go_simp
      refine wpMix_take (v := .int .i64 (j : Int)) 3 (by rfl) (by kernel_rfl) ⟨by rfl, ?_⟩ ?_
      · rintro W hW
        have ce := hW.1
        go_simp
      refine wpMix_take (v := .pointer (some ⟨G, j, none⟩)) 4 (by rfl) (by kernel_rfl) ⟨by rfl, ?_⟩ ?_
      · rintro W -
        go_simp
      refine wpMix_take (v := .slice za q zc) 5 (by rfl) (by kernel_rfl) ⟨by rfl, ?_⟩ ?_
      · rintro W hW
        have ce := hW.2.2
        go_simp
      refine wpMix_take (v := .pointer (some ⟨wr.heap.size, 1, none⟩)) 6 (by rfl) (by kernel_rfl) ⟨by rfl, ?_⟩ ?_
      · rintro W -
        go_simp
      refine wpMix_take (v := .int .u8 y) 7 (by rfl) (by kernel_rfl) ⟨by rfl, ?_⟩ ?_
      · rintro W hW
        have ce := hW.2.1
        go_simp
      have X1 : Hid (LW w W0.drew (.slice (some ⟨G, 0, none⟩) (k + 1) kc) X) := HX.out.mono (E0.out.trans (ext_drew _))
      have Z1 : Hid (LB W0.drew ⟨za, zc, zl⟩) := HXJ.out.ext (E0.out.trans (ext_drew _))
      have E1 : Hid (Ext W0 W0.drew) := ext_drew _
      clear HX HXJ c0 c1 cG hjn hG e1 e2 E0
      generalize W0.drew = W1 at *
      refine wpMix_only 8 (by kernel_rfl) (CL.out _ E1.out) ?_
      refine mOp_value (v := .slice (some ⟨W1.heap.size, 0, none⟩) 1 1) (w' := W1.alloc (.cells #[.int .u8 y] 5)) (by rfl) (by rfl) ?_ ?_
      · go_simp
      have B1 : Hid (Bits (W1.alloc (.cells #[.int .u8 y] 5)) ⟨some ⟨W1.heap.size, 0, none⟩, 1, [y]⟩) := bits_one W1 y
      have X2 : Hid (LW w (W1.alloc (.cells #[.int .u8 y] 5)) (.slice (some ⟨G, 0, none⟩) (k + 1) kc) X) := X1.out.mono ((Ext.refl _).alloc _)
      have Z2 : Hid (LB (W1.alloc (.cells #[.int .u8 y] 5)) ⟨za, zc, zl⟩) := Z1.out.ext ((Ext.refl _).alloc _)
      have E2 : Hid (Ext W0 (W1.alloc (.cells #[.int .u8 y] 5))) := E1.out.alloc _
      clear X1 Z1 E1
      generalize W1.heap.size = k1 at *
      generalize W1.alloc (.cells #[.int .u8 y] 5) = W2 at *
      refine wpMix_only 9 (by kernel_rfl) (CL.out _ E2.out) ?_
      refine mOp_value (v := .slice (some ⟨W2.heap.size, 0, none⟩) 2 2) (w' := W2.alloc (.cells #[.slice za q zc, .slice (some ⟨k1, 0, none⟩) 1 1] 22)) (by rfl) (by rfl) ?_ ?_
      · go_simp
      have E3 : Hid (Ext W2 (W2.alloc (.cells #[.slice za q zc, .slice (some ⟨k1, 0, none⟩) 1 1] 22))) := (Ext.refl _).alloc _
      have K3 := two_cells W2 (.slice za q zc) (.slice (some ⟨k1, 0, none⟩) 1 1)
      generalize W2.alloc (.cells #[.slice za q zc, .slice (some ⟨k1, 0, none⟩) 1 1] 22) = W3 at *
      have HC : Hid (Calls Try.prog 15 #[.slice (some ⟨W2.heap.size, 0, none⟩) 2 2] W3 fun e w' => ∃ v, e = .returned v ∧ OwnB W3 w' v (zl ++ [y])) := by
        have hw := wds_two (x := ⟨za, zc, zl⟩) (y := ⟨some ⟨k1, 0, none⟩, 1, [y]⟩) (Z2.out.bits.ext E3.out) (B1.out.ext E3.out) (by rw [← HQ.out]; exact K3.1) K3.2
        have := concat_any (some ⟨W2.heap.size, 0, none⟩) 2 _ W3 hw (by
          have := HXS.out
          simp only at this
          simp [cat]
          omega)
        show Calls _ _ _ _ _
        simpa [cat] using this
      clear K3
      refine wpMix_only 10 (by kernel_rfl) (CL.out _ (E2.out.trans E3.out)) ?_
      refine mOp_call (f := 15) (args := #[.slice (some ⟨W2.heap.size, 0, none⟩) 2 2]) (w' := W3) (by rfl) (by rfl) ?_ ?_
      · go_simp
      refine HC.out.mono ?_
      rintro e W4 ⟨v, rfl, hv⟩
      refine ⟨_, rfl, ?_⟩
      obtain ⟨u, rfl, hul, hub, -⟩ := hv.lb
      have E4 : Hid (Ext W0 W4) := (E2.out.trans E3.out).trans hv.1
      have X4 : Hid (LW w W4 (.slice (some ⟨G, 0, none⟩) (k + 1) kc) X) := X2.out.mono (E3.out.trans hv.1)
      have U4 : Hid (LB W4 u) := hub
      have HUL : Hid (u.l = zl ++ [y]) := hul
      clear HC hv X2 E2 E3 hub hul B1 Z2
      refine wpMix_only 11 (by kernel_rfl) (CL.out _ E4.out) ?_
      refine mOp_value (v := .slice (some ⟨W4.heap.size, 0, none⟩) 1 1) (w' := W4.alloc (.cells #[u.v] 22)) (by rfl) (by rfl) ?_ ?_
      · go_simp
      obtain ⟨a', c', W5, hrun, hX5, hg5, hold⟩ := run_appendLW 37 w W4 (.slice (some ⟨G, 0, none⟩) (k + 1) kc) X X4.out u U4.out (by rw [HXL.out]; omega)
      rw [HXL.out] at hrun hX5
      have E5 : Hid (Ext W0 (W4.alloc (.cells #[u.v] 22))) := E4.out.alloc _
      refine wpMix_only 12 (by kernel_rfl) (CL.out _ E5.out) ?_
      refine mOp_value (v := .slice a' (k + 1 + 1) c') (w' := W5) (by rfl) (by rfl) ?_ ?_
      · exact exec_append _ _ (.tmp 13) (.tmp 24) 37 (by rfl) (.slice (some ⟨G, 0, none⟩) (k + 1) kc) (.slice (some ⟨W4.heap.size, 0, none⟩) 1 1) _ _ W5 (by simp [Act.eval, Act.put]) (by simp [Act.eval, Act.put]) hrun
      have F : Hid (TM g w W5 (.slice a' (k + 1 + 1) c') (k + 1)) := ⟨_, hX5, by rw [List.map_append, HT.out, NT2.out]; simp [HUL.out]⟩
      have C5 := CL.out _ E5.out
      have C6 : Hid (W5.cell? ⟨wr.heap.size, 0, none⟩ = some (.int .i64 (j : Int)) ∧ W5.cell? ⟨wr.heap.size, 1, none⟩ = some (.int .u8 y) ∧ W5.cell? ⟨G, j, none⟩ = some (.slice za q zc)) := by
        have hbk := hg5.block wr.heap.size (World.block_lt_of_cell? _ _ C5.1) (by
          simp only [Value.ownBlock, ne_eq, Option.some.injEq]
          have := HGJ.out
          omega)
        refine ⟨?_, ?_, ?_⟩
        · rw [World.cell?_of_block (w := W4.alloc (.cells #[u.v] 22)) (a := ⟨wr.heap.size, 0, none⟩) hbk]
          exact C5.1
        · rw [World.cell?_of_block (w := W4.alloc (.cells #[u.v] 22)) (a := ⟨wr.heap.size, 1, none⟩) hbk]
          exact C5.2.1
        · obtain ⟨hj, hz⟩ := HJX.out
          rw [hold G _ _ j hj rfl, hz]
      clear hrun hX5 hg5 hold X4 U4 E4 E5 C5 CL HT NT2
      refine wpMix_lastv (v := .slice a' (k + 1 + 1) c') (w' := W5) 13 (by kernel_rfl) (by kernel_rfl) (by rfl) (by rfl) C6.out ?_ C6.out ?_
      · go_simp
      simp only [Act.put, List.setIfInBounds_toArray, List.set_cons_zero, List.set_cons_succ]
      clear C6 HJX
      go_wp2
      go_roundg (n - (k + 1))
      case measure => omega
      case rel => exact ⟨k + 1, k + 1 + 1, c', a', by omega, by omega, by go_num, rfl, F.out⟩
    · have F : Hid (∃ X, LW w wr (.slice ka (k + 1) kc) X ∧ X.map (·.l) = tx g) := by
        obtain ⟨X, hX, hT⟩ := A.out
        rw [List.take_of_length_le (by rw [HN.out]; omega)] at hT
        exact ⟨X, hX, hT⟩
      clear A
      go_wp2
      go_ret
      obtain ⟨X, hX, hT⟩ := F.out
      exact ⟨_, X, rfl, hX, hT⟩

end Go.Proofs.Ytjgheojfdkfmkaa
