/-
  Rows whose cells go by their number; quipuref.Span.
-/
import Derived.Test.YtdfjjjcaibadoaaDoorSu
namespace Go.Proofs.YtdfjjjcaibadoaaDoor
open Go.RowKit

theorem Row.setF {w : World} {B n k : Nat} {t : TypeId} {f : Nat → Value} (h : Row w B t ((List.range n).map f)) (v : Value) (g : Nat → Value) (hg : ∀ i, i < n → g i = if i = k then v else f i) : Row (w.setCell ⟨B, k, none⟩ v) B t ((List.range n).map g) := by
  have := h.set k v
  have e : ((List.range n).map f).set k v = (List.range n).map g := by
    apply List.ext_getElem
    · simp
    · intro i h1 h2
      simp at h1 h2
      rw [List.getElem_set]
      simp only [List.getElem_map, List.getElem_range]
      rw [hg i h2]
      by_cases hk : k = i
      · rw [if_pos hk, if_pos hk.symm]
      · rw [if_neg hk, if_neg (fun h => hk h.symm)]
  rw [e] at this
  exact this
theorem Row.madeF (w : World) (t : TypeId) (z : Value) (n : Nat) (f : Nat → Value) (hf : ∀ i, i < n → f i = z) : Row (w.alloc (.cells (madeCells #[z] n) t)) w.heap.size t ((List.range n).map f) := by
  have := Row.made w t z n
  have e : (List.range n).map f = List.replicate n z := by
    apply List.ext_getElem
    · simp
    · intro i h1 h2
      simp at h1
      simp [hf i h1]
  rw [e]
  exact this
theorem Row.cellF {w : World} {B n : Nat} {t : TypeId} {f : Nat → Value} (h : Row w B t ((List.range n).map f)) (k : Nat) (hk : k < n) : w.cell? ⟨B, k, none⟩ = some (f k) := by
  have := h.cell k (by simpa using hk)
  simpa using this

theorem info4 : (Tryd.prog.info? 4).map (fun i => (i.zero, i.size, i.bytes)) = some (some (.bool false), 1, 1) := by kernel_rfl

theorem wrap_pow : ∀ m : Fin 13, wrap64 ((2 : Int) ^ m.val) = ((2 ^ m.val : Nat) : Int) := by decide +kernel

theorem OwnU.base {w w0 w' : World} {v : Value} {z : List Nat} (h : OwnU w0 w' v z) (e : Ext w w0) : OwnU w w' v z := by
  obtain ⟨h1, h2, h3⟩ := h
  refine ⟨e.trans h1, h2, ?_⟩
  rcases h3 with h3 | ⟨g, cap, cur, hv, hg, r⟩
  · exact Or.inl h3
  · exact Or.inr ⟨g, cap, cur, hv, Nat.le_trans e.size hg, r⟩

/-- Whether one of the first k choices makes the word. -/
def hit (F : Nat → Nat) (k i : Nat) : Bool := (List.range k).any (fun s => F s == i)
theorem hit_zero (F : Nat → Nat) (i : Nat) : hit F 0 i = false := rfl
theorem hit_next (F : Nat → Nat) (k i : Nat) : hit F (k + 1) i = (hit F k i || (F k == i)) := by
  unfold hit
  rw [List.range_succ, List.any_append]
  simp

/-- The words below k that are told. -/
def upTo (p : Nat → Bool) (k : Nat) : List Nat := (List.range k).filter p
theorem upTo_zero (p : Nat → Bool) : upTo p 0 = [] := rfl
theorem upTo_yes {p : Nat → Bool} {k : Nat} (h : p k = true) : upTo p (k + 1) = upTo p k ++ [k] := by
  unfold upTo
  rw [List.range_succ, List.filter_append]
  simp [h]
theorem upTo_no {p : Nat → Bool} {k : Nat} (h : p k = false) : upTo p (k + 1) = upTo p k := by
  unfold upTo
  rw [List.range_succ, List.filter_append]
  simp [h]
theorem upTo_few (p : Nat → Bool) (k : Nat) : (upTo p k).length ≤ k := by
  have := List.length_filter_le p (List.range k)
  rw [List.length_range] at this
  exact this

set_option maxHeartbeats 2000000 in
theorem refSpan_any (n : Nat) (hn : n ≤ 12) (x : Um) (hl : x.z.length ≤ 8) (hb : ∀ y ∈ x.z, y < 2 ^ n) (w : World) (hx : Us w x) :
    Calls Tryd.prog 6 #[.int .i64 n, x.v] w fun e w' => Hid (∃ v, e = .returned v ∧ OwnU w w' v (spn n x.z)) := by
  have hM : 2 ^ n ≤ 2 ^ 12 := Nat.pow_le_pow_right (by omega) hn
  have SUM : Hid (∀ (s : Nat) (W : World), s < 4294967296 → Ext w W → Calls Tryd.prog 11 #[x.v, .int .u32 (s : Nat)] W fun e w' => e = .returned (.int .u32 (sm x.z s : Nat)) ∧ w' = W) := fun s W hs E => refSum_any x s hs (by omega) (fun y hy => by have := hb y hy; omega) W (hx.ext E)
  have SL : Hid (∀ s, sm x.z s < 2 ^ n) := fun s => sm_lt hb s
  have pw : (2 : Int) ^ x.z.length % 4294967296 = ((2 ^ x.z.length : Nat) : Int) := pow_in _ (by omega)
  have hG : 2 ^ x.z.length ≤ 2 ^ 8 := Nat.pow_le_pow_right (by omega) hl
  have FI : Hid (spn n x.z = upTo (fun i => hit (sm x.z) (2 ^ x.z.length) i) (2 ^ n)) := rfl
  have WP : Hid (wrap64 ((2 : Int) ^ n) = ((2 ^ n : Nat) : Int)) := wrap_pow ⟨n, by omega⟩
  have hmk := run_make_row' (P := Tryd.prog) 32 4 (.bool false) 1 Tryd.underlying32 info4 rfl .i64 .i64 (2 ^ n) (by omega) (by omega)
  clear hb hx
  generalize spn n x.z = R at *
  obtain ⟨a, c, g⟩ := x
  simp only [Um.v] at *
  generalize sm g = F at *
  generalize g.length = m at *
  generalize hMM : 2 ^ n = M at *
  generalize 2 ^ m = G at *
  have st : Hid (∃ W, W = w.alloc (.cells (madeCells #[.bool false] M) 4) ∧ Ext w W ∧ Row W w.heap.size 4 ((List.range M).map (fun i => Value.bool (hit F 0 i)))) :=
    ⟨_, rfl, (Ext.refl w).alloc _, Row.madeF w 4 (.bool false) M _ (fun i _ => by simp [hit_zero])⟩
  go_enter Tryd.func6, Tryd.ntmps6
  go_wp2
  rw [WP.out, hmk]
  clear hmk WP hMM
  obtain ⟨W0, hW, hE, hR⟩ := st.out
  rw [← hW]
  have HE : Hid (Ext w W0) := hE
  have HR : Hid (Row W0 w.heap.size 4 ((List.range M).map (fun i => Value.bool (hit F 0 i)))) := hR
  clear hW hE hR st
  go_wp2
  go_loopg [6] G (fun gg s6 wr => ∃ k : Nat, k ≤ G ∧ G - k ≤ gg ∧ s6 = .int .u32 k ∧ Aside (Ext w wr) ∧ Aside (Row wr w.heap.size 4 ((List.range M).map (fun i => Value.bool (hit F k i)))))
  case atStart => exact ⟨0, Nat.zero_le _, by omega, rfl, HE.out, HR.out⟩
  case round =>
    clear HE HR
    obtain ⟨k, hk, hg, rfl, E, R1⟩ := hrel
    by_cases hlt : k < G
    · have hltz : (k : Int) < (G : Int) := by omega
      have c1 := SUM.out k wr (by omega) E.out
      have l1 := SL.out k
      have e1 := R1.out.cellF (F k) l1
      have f1 := R1.out.fr (F k)
      have NX : Hid (Row (wr.setCell ⟨w.heap.size, F k, none⟩ (.bool true)) w.heap.size 4 ((List.range M).map (fun i => Value.bool (hit F (k + 1) i)))) := by
        refine R1.out.setF _ _ (fun i hi => ?_)
        rw [hit_next]
        by_cases h : i = F k
        · rw [if_pos h, h]; simp
        · rw [if_neg h]
          have : (F k == i) = false := by rw [beq_eq_false_iff_ne]; omega
          rw [this, Bool.or_false]
      have NE : Hid (Ext w (wr.setCell ⟨w.heap.size, F k, none⟩ (.bool true))) := E.out.setCell (Nat.le_refl _) _
      have lz : (F k : Int) < (M : Int) := by omega
      clear E R1 SUM SL FI
      generalize hit F k (F k) = hv at *
      generalize F k = q at *
      go_wp2_with fail
      refine c1.mono ?_
      rintro e w1 ⟨rfl, rfl⟩
      clear c1
      go_wp2
      go_roundg (G - (k + 1))
      case measure => omega
      case rel => exact ⟨k + 1, by omega, by omega, by go_num, NE.out, NX.out⟩
    · obtain rfl : k = G := by omega
      have hltz : ¬ (k : Int) < (k : Int) := by omega
      obtain ⟨wo, rfl⟩ : ∃ wo, wo = wr := ⟨_, rfl⟩
      have E1 : Hid (Ext w wo) := E.out
      have R2 : Hid (Row wo w.heap.size 4 ((List.range M).map (fun i => Value.bool (hit F k i)))) := R1.out
      have FI2 : Hid (R = upTo (fun i => hit F k i) M) := FI.out
      clear E R1 SUM SL FI
      generalize hH : hit F k = H at *
      clear hH
      go_wp2
      go_loopg [7, 8] M (fun gg s7 s8 wi => ∃ j : Nat, j ≤ M ∧ M - j ≤ gg ∧ s8 = .int .i64 j ∧ Aside (OwnU wo wi s7 (upTo H j)))
      case atStart => exact ⟨0, Nat.zero_le _, by omega, rfl, OwnU.nil (Ext.refl _)⟩
      case round =>
        obtain ⟨j, hj, hg2, rfl, O⟩ := hrel
        by_cases hlt2 : j < M
        · have hltz2 : (j : Int) < (M : Int) := by omega
          have e1 := O.out.1.cell (R2.out.cellF j hlt2)
          cases hq : H j
          · have NX : Hid (OwnU wo wr u7 (upTo H (j + 1))) := by show OwnU _ _ _ _; rw [upTo_no hq]; exact O.out
            rw [hq] at e1
            clear O hq
            go_wp2
            go_roundg (M - (j + 1))
            case measure => omega
            case rel => exact ⟨j + 1, by omega, by omega, by go_num, NX.out⟩
          · have NX : Hid (upTo H (j + 1) = upTo H j ++ [j]) := upTo_yes hq
            have OO : Hid (OwnU wo wr u7 (upTo H j)) := O.out
            have hfl : Hid (((upTo H j).length + 1) * 4 ≤ 140737488355328) := by show _ ≤ _; have := upTo_few H j; omega
            rw [hq] at e1
            clear O hq
            go_wp2_with (at_builtin; refine wpList_appendU rfl _ _ rfl wo _ u7 (by rfl) _ OO.out j (by rfl) hfl.out ?_; intro v' w3 O3; have O3' : Hid (OwnU wo w3 v' (upTo H (j + 1))) := by (show OwnU _ _ _ _; rw [NX.out]; exact O3))
            go_roundg (M - (j + 1))
            case measure => omega
            case rel => exact ⟨j + 1, by omega, by omega, by go_num, O3'.out⟩
        · obtain rfl : j = M := by omega
          have hltz3 : ¬ (j : Int) < (j : Int) := by omega
          have OO : Hid (OwnU w wr u7 R) := by show OwnU _ _ _ _; rw [FI2.out]; exact O.out.base E1.out
          clear O
          go_wp2
          go_ret
          exact ⟨u7, rfl, OO.out⟩

end Go.Proofs.YtdfjjjcaibadoaaDoor
