/-
  Rows whose cells go by their number; a number appended; the bits of a list by their number.
-/
import Derived.Test.YtakojkekelhobaaOw
import Derived.Test.YtakojkekelhobaaOu
import Derived.Test.YtakojkekelhobaaMu
import Derived.RegionTactic
import Derived.BigRegion
namespace Go.Proofs.Ytakojkekelhobaa
open Go.RowKit

/-- A store into a row whose cells go by their number. -/
theorem Row.setF {w : World} {B n k : Nat} {t : TypeId} {f : Nat → Value} (h : Row w B t ((List.range n).map f)) (v : Value) (g : Nat → Value) (hg : ∀ i, i < n → g i = if i = k then v else f i) : Row (w.setCell ⟨B, k, none⟩ v) B t ((List.range n).map g) := by
  have := h.set k v
  have e : ((List.range n).map f).set k v = (List.range n).map g := by
    apply List.ext_getElem
    · simp
    · intro i h1 h2
      simp at h1 h2
      rw [List.getElem_set]
      simp only [List.getElem_map, List.getElem_range]
      rw [hg i h2]
      by_cases hk : k = i
      · rw [if_pos hk, if_pos hk.symm]
      · rw [if_neg hk, if_neg (fun h => hk h.symm)]
  rw [e] at this
  exact this
theorem Row.madeF (w : World) (t : TypeId) (z : Value) (n : Nat) (f : Nat → Value) (hf : ∀ i, i < n → f i = z) : Row (w.alloc (.cells (madeCells #[z] n) t)) w.heap.size t ((List.range n).map f) := by
  have := Row.made w t z n
  have e : (List.range n).map f = List.replicate n z := by
    apply List.ext_getElem
    · simp
    · intro i h1 h2
      simp at h1
      simp [hf i h1]
  rw [e]
  exact this
theorem Row.cellF {w : World} {B n : Nat} {t : TypeId} {f : Nat → Value} (h : Row w B t ((List.range n).map f)) (k : Nat) (hk : k < n) : w.cell? ⟨B, k, none⟩ = some (f k) := by
  have := h.cell k (by simpa using hk)
  simpa using this

theorem wpList_appendNum {ops : Array Oper} {rest : List Oper} {o : Oper} {a : Act} {Q : Exit → Act → World → Prop} (hgd : o.guard = none) (s x : Operand)
    (ho : o.op = .call { callee := .builtin .append, args := #[s, x], argTypes := #[26, 26] }) (w0 wr : World) (v : Value) (hs : a.eval s = v) (z : List Int) (hown : OwnN w0 wr v z)
    (q : Int) (hx : a.eval x = .slice (some ⟨wr.heap.size, 0, none⟩) 1 1) (hb : (z.length + 1) * 8 ≤ 140737488355328)
    (h : ∀ v' w', OwnN w0 w' v' (z ++ [q]) → wpList Try.prog ops Q rest (a.put o.dst v') w') : wpList Try.prog ops Q (o :: rest) a (wr.alloc (.cells #[.int .i64 q] 3)) := by
  obtain ⟨i0, hi, hz0, hz1, hz2⟩ := info_parts info3
  obtain ⟨he, hown⟩ := hown
  refine wpList_append_own _ hgd s x 26 ho w0.heap.size 3 i0 (.int .i64 0) 1 8 Try.underlying26 hi hz0 hz1 hz2 rfl (by decide) v z.length (z.map (Value.int .i64)) hs (hown.alloc _) ⟨wr.heap.size, 0, none⟩ 1 1 [.int .i64 q] hx rfl ?_ ?_ ?_ hb ?_ ?_
  · exact cell_one_new _ _ _
  · intro u hu; simp at hu; subst hu; rfl
  · unfold maxLen; omega
  · have := he.size; simp; omega
  · intro v' w' hown' hgr _
    refine h v' w' ⟨?_, ?_⟩
    · have e1 : Ext w0 (wr.alloc (.cells #[.int .i64 q] 3)) := he.alloc _
      exact Below.grown e1 hgr e1.size (fun k hk => (hown.lt k hk).1)
    · simpa using hown'

/-- Numbers that are products, as numbers. -/
abbrev iv (L : List Nat) : List Int := L.map (fun x : Nat => (x : Int))
theorem iv_snoc (L : List Nat) (q : Nat) : iv (L ++ [q]) = iv L ++ [(q : Int)] := by simp [iv]
theorem iv_len (L : List Nat) : (iv L).length = L.length := by simp [iv]
theorem iv_at (L : List Nat) (i : Nat) : (iv L).getD i 0 = ((L.getD i 0 : Nat) : Int) := by
  unfold iv
  rw [List.getD_eq_getElem?_getD, List.getD_eq_getElem?_getD, List.getElem?_map]
  cases L[i]? <;> rfl

/-- The cells of a row of bits, each by its number. -/
abbrev bf (f : Nat → Bool) (n : Nat) : List Value := (List.range n).map (fun i => Value.bool (f i))
/-- Bits, each by its number. -/
abbrev bl (f : Nat → Bool) (n : Nat) : List Bool := (List.range n).map f
theorem bl_len (f : Nat → Bool) (n : Nat) : (bl f n).length = n := by simp
theorem bl_at (f : Nat → Bool) {n i : Nat} (h : i < n) : (bl f n).getD i false = f i := by
  unfold bl
  simp [List.getD_eq_getElem?_getD, h]
theorem bl_self (l : List Bool) : bl (fun i => l.getD i false) l.length = l := by
  apply List.ext_getElem
  · simp
  · intro i h1 h2
    simp [List.getD_eq_getElem?_getD, h2]
theorem bl_congr {f g : Nat → Bool} {n : Nat} (h : ∀ i, i < n → f i = g i) : bl f n = bl g n := List.map_congr_left (fun i hi => h i (List.mem_range.1 hi))
theorem bf_bv (f : Nat → Bool) (n : Nat) : bf f n = bv (bl f n) := by
  unfold bf bv bl
  rw [List.map_map]; rfl
theorem bl_snoc (f : Nat → Bool) (n : Nat) : bl f (n + 1) = bl f n ++ [f n] := by
  unfold bl
  rw [List.range_succ, List.map_append]; rfl

end Go.Proofs.Ytakojkekelhobaa
