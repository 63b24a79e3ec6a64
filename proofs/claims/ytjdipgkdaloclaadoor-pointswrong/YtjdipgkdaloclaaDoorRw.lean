/-
  Rows of numbers whose cells go by their number; an append that writes the list's own block, or lays a new one.
-/
import Derived.Test.YtjdipgkdaloclaaDoorRf
import Derived.Test.YtjdipgkdaloclaaDoorNw
import Derived.Test.YtjdipgkdaloclaaDoorFst
import Derived.RegionTactic
import Derived.BigRegion
namespace Go.Proofs.YtjdipgkdaloclaaDoor
open Go.RowKit

/-- A store into a row whose cells go by their number. -/
theorem Row.setF {w : World} {B n k : Nat} {t : TypeId} {f : Nat → Value} (h : Row w B t ((List.range n).map f)) (v : Value) (g : Nat → Value) (hg : ∀ i, i < n → g i = if i = k then v else f i) : Row (w.setCell ⟨B, k, none⟩ v) B t ((List.range n).map g) := by
  have := h.set k v
  have e : ((List.range n).map f).set k v = (List.range n).map g := by
    apply List.ext_getElem
    · simp
    · intro i h1 h2
      simp at h1 h2
      rw [List.getElem_set]
      simp only [List.getElem_map, List.getElem_range]
      rw [hg i h2]
      by_cases hk : k = i
      · rw [if_pos hk, if_pos hk.symm]
      · rw [if_neg hk, if_neg (fun h => hk h.symm)]
  rw [e] at this
  exact this
theorem Row.madeF (w : World) (t : TypeId) (z : Value) (n : Nat) (f : Nat → Value) (hf : ∀ i, i < n → f i = z) : Row (w.alloc (.cells (madeCells #[z] n) t)) w.heap.size t ((List.range n).map f) := by
  have := Row.made w t z n
  have e : (List.range n).map f = List.replicate n z := by
    apply List.ext_getElem
    · simp
    · intro i h1 h2
      simp at h1
      simp [hf i h1]
  rw [e]
  exact this
theorem Row.cellF {w : World} {B n : Nat} {t : TypeId} {f : Nat → Value} (h : Row w B t ((List.range n).map f)) (k : Nat) (hk : k < n) : w.cell? ⟨B, k, none⟩ = some (f k) := by
  have := h.cell k (by simpa using hk)
  simpa using this

/-- The cells of a row of numbers, each by its number. -/
abbrev nf (f : Nat → Nat) (n : Nat) : List Value := (List.range n).map (fun i => Value.int .i64 ((f i : Nat) : Int))
theorem nf_zl (f : Nat → Nat) (n : Nat) : nf f n = (zl (nl f n)).map (Value.int .i64) := by
  unfold nf zl nl
  rw [List.map_map, List.map_map]
  rfl
theorem nf_congr {f g : Nat → Nat} {n : Nat} (h : ∀ i, i < n → f i = g i) : nf f n = nf g n := List.map_congr_left (fun i hi => by rw [h i (List.mem_range.1 hi)])
theorem zl_len (l : List Nat) : (zl l).length = l.length := by simp
theorem zl_at (l : List Nat) (i : Nat) : (zl l).getD i 0 = ((l.getD i 0 : Nat) : Int) := by
  rw [List.getD_eq_getElem?_getD, List.getD_eq_getElem?_getD, List.getElem?_map]
  cases l[i]? <;> rfl

theorem Row.setN {w : World} {B n k : Nat} {f : Nat → Nat} (h : Row w B 3 (nf f n)) (v : Nat) (g : Nat → Nat) (hg : ∀ i, i < n → g i = if i = k then v else f i) : Row (w.setCell ⟨B, k, none⟩ (.int .i64 (v : Nat))) B 3 (nf g n) :=
  Row.setF h _ _ (fun i hi => by
    rw [hg i hi]
    split
    · rfl
    · rfl)
theorem Row.cellN {w : World} {B n : Nat} {f : Nat → Nat} (h : Row w B 3 (nf f n)) (k : Nat) (hk : k < n) : w.cell? ⟨B, k, none⟩ = some (.int .i64 (f k : Nat)) := Row.cellF h k hk
theorem Row.madeN (w : World) (n : Nat) (f : Nat → Nat) (hf : ∀ i, i < n → f i = 0) : Row (w.alloc (.cells (madeCells #[.int .i64 0] n) 3)) w.heap.size 3 (nf f n) := Row.madeF w 3 (.int .i64 0) n _ (fun i hi => by rw [hf i hi]; rfl)
/-- What k rounds have laid. -/
theorem upto_next {V : Nat → Nat} {k i : Nat} : (if i < k + 1 then V i else 0) = if i = k then V k else if i < k then V i else 0 := by
  by_cases h : i = k
  · subst h; simp
  · rw [if_neg h]
    by_cases h2 : i < k
    · rw [if_pos h2, if_pos (by omega)]
    · rw [if_neg h2, if_neg (by omega)]

/-- Such a row as a list of numbers. -/
theorem Row.numsF {w : World} {B n : Nat} {f : Nat → Nat} (h : Row w B 3 (nf f n)) (hm : n ≤ maxLen) : Nums w ⟨some ⟨B, 0, none⟩, n, zl (nl f n)⟩ := by
  rw [nf_zl] at h
  have := h.nums (by simpa using hm)
  rw [zl_len, nl_len] at this
  exact this
/-- .. of the list that it is. -/
theorem Row.numsL {w : World} {B n : Nat} {f : Nat → Nat} (h : Row w B 3 (nf f n)) (hm : n ≤ maxLen) (l : List Nat) (hl : l.length = n) (hf : ∀ i, i < n → f i = l.getD i 0) : Nums w ⟨some ⟨B, 0, none⟩, n, zl l⟩ := by
  have := h.numsF hm
  have e : nl f n = l := by rw [nl_congr hf, ← hl]; exact nl_self l
  rw [e] at this
  exact this

theorem append_block {t e : TypeId} {i0 : TypeInfo} {z : Value} {by8 : Nat} (ht : Tryd.prog.underlying t = some (.slice e)) (hi : Tryd.prog.info? e = some i0) (hz0 : i0.zero = some z) (hz1 : i0.size = 1) (hz2 : i0.bytes = by8) (hb : by8 ≤ 24)
    {w w' : World} {base : Nat} {v v' : Value} {n : Nat} {xs : List Value} {ty : TypeId} {ad : Addr} {m c : Nat} {ys : List Value} (hown : w.ownsRow base e 1 v n xs) (hl : ys.length = m) (hm : 0 < m)
    (hnews : ∀ j u, ys[j]? = some u → w.cell? (ad.add j) = some u) (hone : ∀ u ∈ ys, u.oneCell' = true) (h63 : n + m ≤ 1000000000) (hr : (Builtin.append_ #[t, t] ty #[v, .slice (some ad) m c]).run Tryd.prog w = .ok v' w') :
    v'.ownBlock = v.ownBlock ∨ ((∃ k, v'.ownBlock = some k ∧ w.heap.size ≤ k) ∧ Ext w w') := by
  have hbb : (n + m) * by8 ≤ 24000000000 := by
    have := Nat.mul_le_mul h63 hb
    omega
  have hbm : m * by8 ≤ 24000000000 := by
    have := Nat.mul_le_mul (show m ≤ 1000000000 by omega) hb
    omega
  rcases hown.2 with ⟨rfl, rfl⟩ | ⟨g, cap, cur, rfl, hbg, hg, hnc, hcm, hcs, htake⟩
  · have hr2 := run_append_nil (P := Tryd.prog) w t ty e i0 _ ht hi hz0 ad m c ys (by rw [hz1]; omega) hnews hm (by omega) (by rw [hz2]; omega)
    rw [hr2] at hr
    injection hr with e1 e2
    subst e1 e2
    exact .inr ⟨⟨_, rfl, Nat.le_refl _⟩, (ext_drew w).alloc _⟩
  · by_cases hroom : n + m ≤ cap
    · have hr2 := run_append_room (P := Tryd.prog) w t ty e i0 ht hi g n cap cur hg ad m c ys (by rw [hz1]; omega) hnews hone hroom (by rw [hz1, hl]; omega)
      rw [hr2] at hr
      injection hr with e1 e2
      subst e1
      exact .inl rfl
    · have holds : ∀ j u, xs[j]? = some u → w.cell? ((⟨g, 0, none⟩ : Addr).add j) = some u := hown.cells (g := g) rfl
      have hr2 := run_append_grow (P := Tryd.prog) w t ty e i0 _ ht hi hz0 ⟨g, 0, none⟩ n cap xs (by rw [hz1]; exact hown.1) holds ad m c ys (by rw [hz1]; omega) hnews (by omega) (by omega) (growslice_fits (by omega) (by rw [hz2]; omega))
      rw [hr2] at hr
      injection hr with e1 e2
      subst e1 e2
      exact .inr ⟨⟨_, rfl, Nat.le_refl _⟩, (ext_drew w).alloc _⟩

/-- One number appended: every other block stays as it was, and the list lies in none of these. -/
theorem wpList_appendNumB {ops : Array Oper} {rest : List Oper} {o : Oper} {a : Act} {Q : Exit → Act → World → Prop} (hgd : o.guard = none) (s x : Operand)
    (ho : o.op = .call { callee := .builtin .append, args := #[s, x], argTypes := #[22, 22] }) (w0 wr : World) (v : Value) (hs : a.eval s = v) (z : List Int) (hown : OwnN w0 wr v z)
    (q : Int) (hx : a.eval x = .slice (some ⟨wr.heap.size, 0, none⟩) 1 1) (hb : z.length + 1 ≤ 1000000000)
    (h : ∀ v' w', OwnN w0 w' v' (z ++ [q]) → (∀ B t l, Row wr B t l → some B ≠ v.ownBlock → Row w' B t l ∧ some B ≠ v'.ownBlock) → wr.heap.size ≤ w'.heap.size → wpList Tryd.prog ops Q rest (a.put o.dst v') w') : wpList Tryd.prog ops Q (o :: rest) a (wr.alloc (.cells #[.int .i64 q] 3)) := by
  obtain ⟨i0, hi, hz0, hz1, hz2⟩ := info_parts info3
  obtain ⟨he, hown⟩ := hown
  have hA := hown.alloc (.cells #[.int .i64 q] 3)
  have hone : ∀ u ∈ [Value.int .i64 q], u.oneCell' = true := by intro u hu; simp at hu; subst hu; rfl
  have eA : Ext w0 (wr.alloc (.cells #[.int .i64 q] 3)) := he.alloc _
  obtain ⟨v', w', hr, h2, h3, _⟩ := run_append_own (P := Tryd.prog) (wr.alloc (.cells #[.int .i64 q] 3)) w0.heap.size 22 o.type 3 i0 (.int .i64 0) 1 8 Tryd.underlying22 hi hz0 hz1 hz2 rfl (by decide) v z.length (z.map (Value.int .i64)) hA ⟨wr.heap.size, 0, none⟩ 1 1 [.int .i64 q] rfl
    (cell_one_new _ _ _) hone (by unfold maxLen; omega) (by omega) eA.size
  have hbk := append_block Tryd.underlying22 hi hz0 hz1 hz2 (by omega) hA (ad := ⟨wr.heap.size, 0, none⟩) (m := 1) (ys := [.int .i64 q]) rfl (by decide) (cell_one_new _ _ _) hone (by omega) hr
  refine wpList_plain hgd fun _ hK => ?_
  unfold Oper.wp execOp
  simp only [ho, resolve, invoke, builtin, Sem.run_bind, Sem.run_pure, Result.andThen_ok, List.map_toArray, List.map_cons, List.map_nil, hs, hx, hr]
  refine hK _ _ (h v' w' ⟨Below.grown eA h3 eA.size (fun k hk => (hA.lt k hk).1), by simpa using h2⟩ (fun B t l hB hne => ?_) ?_)
  · have e1 : Row (wr.alloc (.cells #[.int .i64 q] 3)) B t l := hB.ext ((Ext.refl wr).alloc _)
    refine ⟨?_, ?_⟩
    · show w'.heap[B]? = _
      rw [h3.block B e1.lt hne]
      exact e1
    · rcases hbk with hb | ⟨⟨k, hk, hk2⟩, _⟩
      · rw [hb]; exact hne
      · rw [hk]
        intro e
        injection e with e
        have := hB.lt
        simp at hk2
        omega
  · have := h3.size
    simp at this
    omega

end Go.Proofs.YtjdipgkdaloclaaDoor
