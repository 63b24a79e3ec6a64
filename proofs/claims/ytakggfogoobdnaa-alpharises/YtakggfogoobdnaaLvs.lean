/-
  Trees in memory; huff.leaves: a tree of each symbol alone.
-/
import Derived.Test.YtakggfogoobdnaaIns
import Derived.Test.YtakggfogoobdnaaSum
namespace Go.Proofs.Ytakggfogoobdnaa
open Go.RowKit

/-- The symbols of a tree, as numbers. -/
def syms (S : List (Nat × Nat)) : List Int := S.map fun p => (p.1 : Int)

/-- A tree's symbols lie in a block of their own, behind base. -/
def TrOk (base : Nat) (w : World) (t : Tr) : Prop :=
  base ≤ t.g ∧ t.n = t.S.length ∧ t.n ≤ t.c ∧ t.c ≤ maxLen ∧ ∃ cur : Array Value, w.heap[t.g]? = some (.cells cur 3 (0, 0)) ∧ cur.toList.take t.n = (syms t.S).map (Value.int .i64)

theorem TrOk.keep {base : Nat} {w w' : World} {t : Tr} (h : TrOk base w t) (hb : w'.heap[t.g]? = w.heap[t.g]?) : TrOk base w' t := by
  obtain ⟨h1, h2, h3, h4, cur, h5, h6⟩ := h
  exact ⟨h1, h2, h3, h4, cur, by rw [hb]; exact h5, h6⟩
theorem TrOk.lt {base : Nat} {w : World} {t : Tr} (h : TrOk base w t) : t.g < w.heap.size := by
  obtain ⟨_, _, _, _, cur, h5, _⟩ := h
  exact lt_of_block h5
theorem TrOk.ext {base : Nat} {w w' : World} {t : Tr} (h : TrOk base w t) (e : Ext w w') : TrOk base w' t := h.keep (e.block _ h.lt)
theorem TrOk.ne {base : Nat} {w : World} {t : Tr} {B : Nat} {l : List Value} {ty : TypeId} (h : TrOk base w t) (hr : Row w B ty l) (ht : ty ≠ 3) : t.g ≠ B := by
  obtain ⟨_, _, _, _, cur, h5, _⟩ := h
  rintro rfl
  unfold Row at hr
  rw [hr] at h5
  simp only [Option.some.injEq, Obj.cells.injEq] at h5
  exact ht h5.2.1
theorem TrOk.nums {base : Nat} {w : World} {t : Tr} (h : TrOk base w t) : Nums w ⟨some ⟨t.g, 0, none⟩, t.c, syms t.S⟩ := by
  obtain ⟨h1, h2, h3, h4, cur, h5, h6⟩ := h
  have hl : (syms t.S).length = t.n := by rw [h2]; simp [syms]
  refine ⟨by simp only [hl]; exact h3, h4, by simp, t.g, 0, fun _ => rfl, fun i hi => ?_⟩
  simp only at hi ⊢
  rw [cell_of_row w t.g (0 + i) cur 3 (0, 0) h5, Nat.zero_add]
  have : (cur.toList.take t.n)[i]? = some (.int .i64 ((syms t.S).getD i 0)) := by
    rw [h6]; simp [List.getD_eq_getElem?_getD, hi]
  rw [List.getElem?_take] at this
  split at this
  · simpa using this
  · cases this

theorem info66 : (Try.prog.info? 66).map (fun i => (i.zero, i.size, i.bytes)) = some (some (.agg #[.int .i64 0, .slice none 0 0]), 2, 32) := by kernel_rfl

/-- The cells of trees that are not laid yet. -/
def zr : Nat → List Value
  | 0 => []
  | n + 1 => .int .i64 0 :: .slice none 0 0 :: zr n
theorem zr_len : ∀ n, (zr n).length = n * 2
  | 0 => rfl
  | n + 1 => by simp [zr, zr_len n]; omega

/-- The leaf of a symbol. -/
def Leaf (base : Nat) (z : List Int) (w : World) (i : Nat) (t : Tr) : Prop := t.x = z.getD i 0 ∧ t.S = [(i, 0)] ∧ TrOk base w t

theorem Row.leaf {w : World} {B k m : Nat} {R : List Tr} (h : Row w B 66 (fl R ++ zr (m + 1))) (hk : R.length = k) (t : Tr) :
    Row ((w.setCell ⟨B, k * 2, none⟩ (.int .i64 t.x)).setCell ⟨B, k * 2 + 1, none⟩ t.v) B 66 (fl (R ++ [t]) ++ zr m) := by
  subst hk
  have := (h.set (R.length * 2) (.int .i64 t.x)).set (R.length * 2 + 1) t.v
  have e1 : (fl R ++ zr (m + 1)).set (R.length * 2) (.int .i64 t.x) = fl R ++ (.int .i64 t.x :: .slice none 0 0 :: zr m) := set_mid _ _ _ _ _ (by simp [fl_len])
  have e2 : (fl R ++ (.int .i64 t.x :: .slice none 0 0 :: zr m)).set (R.length * 2 + 1) t.v = fl R ++ (.int .i64 t.x :: t.v :: zr m) := by
    have := set_mid (fl R ++ [.int .i64 t.x]) (zr m) (.slice none 0 0) t.v (R.length * 2 + 1) (by simp [fl_len])
    simpa using this
  rw [e1, e2] at this
  rw [fl_append, fl_cons]
  simpa [fl] using this

theorem leaf_step (wr : World) (B k m : Nat) (R : List Tr) (hk : R.length = k) (hr : Row wr B 66 (fl R ++ zr (m + 1))) (z : List Int) (zk : Int) (hz : z.getD k 0 = zk) (h3 : ∀ i t, R[i]? = some t → Leaf B z wr i t) :
    ∃ R' : List Tr, R'.length = k + 1 ∧ Row (((wr.setCell ⟨B, k * 2, none⟩ (.int .i64 zk)).setCell ⟨B, k * 2 + 1, none⟩ (.slice (some ⟨wr.heap.size, 0, none⟩) 1 1)).alloc (.cells #[.int .i64 (k : Int)] 3)) B 66 (fl R' ++ zr m) ∧
      ∀ i t, R'[i]? = some t → Leaf B z (((wr.setCell ⟨B, k * 2, none⟩ (.int .i64 zk)).setCell ⟨B, k * 2 + 1, none⟩ (.slice (some ⟨wr.heap.size, 0, none⟩) 1 1)).alloc (.cells #[.int .i64 (k : Int)] 3)) i t := by
  have hBl := hr.lt
  have hrow := hr.leaf hk ⟨zk, wr.heap.size, 1, 1, [(k, 0)]⟩
  refine ⟨R ++ [⟨zk, wr.heap.size, 1, 1, [(k, 0)]⟩], by simp [hk], hrow.ext ((Ext.refl _).alloc _), ?_⟩
  have hs : ((wr.setCell ⟨B, k * 2, none⟩ (.int .i64 zk)).setCell ⟨B, k * 2 + 1, none⟩ (.slice (some ⟨wr.heap.size, 0, none⟩) 1 1)).heap.size = wr.heap.size := by simp
  intro i t ht
  rw [List.getElem?_append] at ht
  split at ht
  · obtain ⟨l1, l2, l3⟩ := h3 i t ht
    refine ⟨l1, l2, l3.keep ?_⟩
    rw [heap_alloc_old _ _ (by rw [hs]; exact l3.lt), Below.heap_setCell _ _ _ _ (l3.ne hr (by decide)), Below.heap_setCell _ _ _ _ (l3.ne hr (by decide))]
  · rename_i hge
    have hi : i = k := by
      rcases Nat.lt_or_ge (i - R.length) 1 with h | h
      · omega
      · rw [List.getElem?_eq_none (by simpa using h)] at ht; cases ht
    subst hi
    rw [hk, Nat.sub_self] at ht
    simp only [List.getElem?_cons_zero, Option.some.injEq] at ht
    subst ht
    refine ⟨hz.symm, rfl, Nat.le_of_lt hBl, rfl, Nat.le_refl _, by simp [maxLen], #[.int .i64 (i : Int)], ?_, by simp [syms]⟩
    have := heap_alloc_new ((wr.setCell ⟨B, i * 2, none⟩ (.int .i64 zk)).setCell ⟨B, i * 2 + 1, none⟩ (.slice (some ⟨wr.heap.size, 0, none⟩) 1 1)) (.cells #[.int .i64 (i : Int)] 3)
    rw [hs] at this
    exact this

theorem made_zr (n : Nat) : (madeCells (Value.cells (.agg #[.int .i64 0, .slice none 0 0])) (n * 2)).toList = zr n := by
  have hc : Value.cells (.agg #[.int .i64 0, .slice none 0 0]) = #[.int .i64 0, .slice none 0 0] := by simp [Value.cells]
  rw [hc]
  have e : ∀ m, (List.range (m * 2)).map (fun i => (#[Value.int .i64 0, .slice none 0 0] : Array Value)[i % 2]!) = zr m := by
    intro m
    induction m with
    | zero => rfl
    | succ m ih =>
      rw [show (m + 1) * 2 = m * 2 + 1 + 1 by omega, List.range_succ, List.range_succ, List.map_append, List.map_append, ih]
      have z1 : ∀ k, zr (k + 1) = zr k ++ [.int .i64 0, .slice none 0 0] := by
        intro k
        induction k with
        | zero => rfl
        | succ k ih =>
          show .int .i64 0 :: .slice none 0 0 :: zr (k + 1) = (.int .i64 0 :: .slice none 0 0 :: zr k) ++ _
          rw [ih]
          rfl
      rw [z1]
      simp
  have := e n
  unfold madeCells
  simpa using this

theorem make_trees (n : Nat) (h : n ≤ 8) (w : World) : ∃ W, (Instr.makeSlice 62 (.int .i64 (n : Int)) (.int .i64 (n : Int))).run Try.prog w = .ok (.slice (some ⟨w.heap.size, 0, none⟩) n n) W ∧ Ext w W ∧ Row W w.heap.size 66 (zr n) := by
  obtain ⟨i0, hi, hz0, hz1, hz2⟩ := info_parts info66
  refine ⟨_, ?_, (Ext.refl w).alloc (.cells (madeCells (Value.cells (.agg #[.int .i64 0, .slice none 0 0])) (n * 2)) 66), ?_⟩
  · have := run_makeSlice (P := Try.prog) (w := w) 62 66 i0 _ Try.underlying62 hi hz0 .i64 .i64 (n : Int) (n : Int) (by omega) (by omega) (by rw [hz1]; simp; omega) (by rw [hz2]; omega) (by omega)
    rw [hz1] at this
    simpa using this
  · have := heap_alloc_new w (.cells (madeCells (Value.cells (.agg #[.int .i64 0, .slice none 0 0])) (n * 2)) 66)
    unfold Row
    rw [this, ← made_zr n]

set_option maxHeartbeats 2000000 in
theorem leaves_any (a : Option Addr) (c : Nat) (z : List Int) (w : World) (hz : Nums w ⟨a, c, z⟩) (h8 : z.length ≤ 8) :
    Calls Try.prog 40 #[.slice a z.length c] w fun e w' => ∃ R : List Tr, e = .returned (.slice (some ⟨w.heap.size, 0, none⟩) z.length z.length) ∧ R.length = z.length ∧ Row w' w.heap.size 66 (fl R) ∧ Ext w w' ∧ ∀ i t, R[i]? = some t → Leaf w.heap.size z w' i t := by
  obtain ⟨k1, k2, _, zb, zo, k4, k5⟩ := hz
  simp only at k1 k2 k4 k5
  obtain ⟨n, hn⟩ : ∃ n, z.length = n := ⟨_, rfl⟩
  have HN : Hid (z.length = n) := hn
  have K5 : Hid (∀ i, i < z.length → w.cell? ⟨zb, zo + i, none⟩ = some (.int .i64 (z.getD i 0))) := k5
  rw [hn] at k1 k4 h8 ⊢
  unfold maxLen at k2
  clear hn k5
  obtain ⟨W, hmk, hE, hR⟩ := make_trees n h8 w
  have HE : Hid (Ext w W) := hE
  have HR : Hid (Row W w.heap.size 66 (zr n)) := hR
  clear hE hR
  obtain ⟨wo, hwo⟩ : ∃ wo, wo = w := ⟨_, rfl⟩
  go_enter Try.func40, Try.ntmps40
  go_wp2
  subst hwo
  obtain ⟨B, hB⟩ : ∃ B, wo.heap.size = B := ⟨_, rfl⟩
  have HB : Hid (wo.heap.size = B) := hB
  rw [hB] at HR ⊢
  clear hB hmk
  go_loopg [4, 5, 11] n (fun gg _ _ s wr => ∃ k : Nat, k ≤ n ∧ n - k ≤ gg ∧ s = .int .i64 k ∧ Aside (Ext wo wr) ∧ Aside (∃ R : List Tr, R.length = k ∧ Row wr B 66 (fl R ++ zr (n - k)) ∧ ∀ i t, R[i]? = some t → Leaf B z wr i t))
  case atStart => exact ⟨0, by omega, by omega, rfl, HE.out, [], rfl, by simpa [fl] using HR.out, fun i t h => by simp at h⟩
  case round =>
    obtain ⟨k, hk, hgg, rfl, BW, A⟩ := hrel
    by_cases hlt : k < n
    · have hltz : (k : Int) < (n : Int) := by omega
      obtain rfl := k4 (by omega)
      have e1 := BW.out.cell (K5.out k (by rw [HN.out]; exact hlt))
      have F : ∀ i, wr.frozen? ⟨B, i, none⟩ = false := by obtain ⟨R, _, h2, _⟩ := A.out; exact h2.fr
      have hBl : B < wr.heap.size := by obtain ⟨R, _, h2, _⟩ := A.out; exact h2.lt
      have CC : wr.cell? ⟨B, k * 2, none⟩ = some (.int .i64 0) ∧ wr.cell? ⟨B, k * 2 + 1, none⟩ = some (.slice none 0 0) := by
        obtain ⟨R, h1, h2, _⟩ := A.out
        obtain ⟨m, hm⟩ : ∃ m, n - k = m + 1 := ⟨n - k - 1, by omega⟩
        rw [hm] at h2
        have t1 := h2.cell (k * 2) (by simp [fl_len, zr_len, h1])
        have t2 := h2.cell (k * 2 + 1) (by simp [fl_len, zr_len, h1]; omega)
        rw [t1, t2]
        rw [List.getElem_append_right (by simp [fl_len, h1]), List.getElem_append_right (by simp [fl_len, h1])]
        simp [fl_len, h1, zr]
      obtain ⟨C1, C2⟩ := CC
      obtain ⟨zk, hzk⟩ : ∃ zk, z.getD k 0 = zk := ⟨_, rfl⟩
      have ZK : Hid (z.getD k 0 = zk) := hzk
      rw [hzk] at e1
      have NX : Hid (∃ R' : List Tr, R'.length = k + 1 ∧ Row (((wr.setCell ⟨B, k * 2, none⟩ (.int .i64 zk)).setCell ⟨B, k * 2 + 1, none⟩ (.slice (some ⟨wr.heap.size, 0, none⟩) 1 1)).alloc (.cells #[.int .i64 (k : Int)] 3)) B 66 (fl R' ++ zr (n - (k + 1))) ∧
          ∀ i t, R'[i]? = some t → Leaf B z (((wr.setCell ⟨B, k * 2, none⟩ (.int .i64 zk)).setCell ⟨B, k * 2 + 1, none⟩ (.slice (some ⟨wr.heap.size, 0, none⟩) 1 1)).alloc (.cells #[.int .i64 (k : Int)] 3)) i t) := by
        obtain ⟨R, h1, h2, h3⟩ := A.out
        exact leaf_step wr B k (n - (k + 1)) R h1 (by rw [show n - (k + 1) + 1 = n - k by omega]; exact h2) z zk ZK.out h3
      have EX : Hid (Ext wo (((wr.setCell ⟨B, k * 2, none⟩ (.int .i64 zk)).setCell ⟨B, k * 2 + 1, none⟩ (.slice (some ⟨wr.heap.size, 0, none⟩) 1 1)).alloc (.cells #[.int .i64 (k : Int)] 3))) :=
        ((BW.out.setCell (by rw [HB.out]; exact Nat.le_refl _) _).setCell (by rw [HB.out]; exact Nat.le_refl _) _).alloc _
      clear A hzk
      go_wp2
      go_roundg (n - (k + 1))
      case measure => omega
      case rel => exact ⟨k + 1, by omega, by omega, by go_num, EX.out, NX.out⟩
    · have FIN : Hid (∃ R : List Tr, R.length = n ∧ Row wr B 66 (fl R) ∧ ∀ i t, R[i]? = some t → Leaf B z wr i t) := by
        obtain ⟨R, h1, h2, h3⟩ := A.out
        have hkn : k = n := by omega
        subst hkn
        exact ⟨R, h1, by simpa [zr] using h2, h3⟩
      clear A
      go_wp2
      go_ret
      obtain ⟨R, h1, h2, h3⟩ := FIN.out
      refine ⟨R, ?_, h1, ?_, BW.out, ?_⟩
      · rw [HB.out]; rfl
      · rw [HB.out]; exact h2
      · rw [HB.out]; exact h3

end Go.Proofs.Ytakggfogoobdnaa
