/-
  muller.productsUpTo: the words whose degree is not too great, sorted.
-/
import Derived.Test.YtakojkekelhobaaCf
import Derived.Test.YtakojkekelhobaaPr
namespace Go.Proofs.Ytakojkekelhobaa
open Go.RowKit Go.Sort
set_option linter.unusedVariables false

/-- The words below k of a degree of at most r. -/
def ff (r k : Nat) : List Nat := (List.range k).filter (fun p => decide (pop p ≤ r))
theorem ff_yes {r k : Nat} (h : pop k ≤ r) : ff r (k + 1) = ff r k ++ [k] := by
  unfold ff
  rw [List.range_succ, List.filter_append]
  simp [h]
theorem ff_no {r k : Nat} (h : ¬ pop k ≤ r) : ff r (k + 1) = ff r k := by
  unfold ff
  rw [List.range_succ, List.filter_append]
  simp [h]
theorem ff_few (r k : Nat) : (ff r k).length ≤ k := by
  have h := List.length_filter_le (fun p => decide (pop p ≤ r)) (List.range k)
  simp only [List.length_range] at h
  exact h
theorem ff_lt {r k x : Nat} (h : x ∈ ff r k) : x < k := List.mem_range.1 (List.mem_filter.1 h).1
theorem ff_some {r k : Nat} (h : 0 < k) : 0 < (ff r k).length := by
  refine List.length_pos_of_mem (a := 0) (List.mem_filter.2 ⟨List.mem_range.2 h, decide_eq_true ?_⟩)
  have : pop 0 = 0 := by decide
  omega

/-- A product as one of sixteen. -/
def tf (x : Nat) : Fin 16 := Fin.ofNat 16 x
theorem tf_val {x : Nat} (h : x < 16) : (tf x).val = x := Nat.mod_eq_of_lt h
abbrev enc (x : Fin 16) : Value := .int .u32 (x.val : Int)

theorem lt_irr : ∀ x : Fin 16, ltOf cf x x = false := by decide +kernel
theorem lt_anti : ∀ x y : Fin 16, ltOf cf y x = false → ltOf cf x y = false → x = y := by decide +kernel
theorem lt_tr : ∀ x y z : Fin 16, ltOf cf x y = true → ltOf cf y z = true → ltOf cf x z = true := by decide +kernel
theorem lt_ntr : ∀ x y z : Fin 16, ltOf cf x y = false → ltOf cf y z = false → ltOf cf x z = false := by decide +kernel
theorem swo : SWO (ltOf cf) := ⟨lt_irr, lt_tr, lt_ntr⟩
theorem pl_perm : ∀ m r : Fin 5, r.val ≤ m.val → ((ff r.val (2 ^ m.val)).map tf).Perm ((pl m.val (r.val + 1)).map tf) := by decide +kernel
theorem pl_sort : ∀ m r : Fin 5, r.val ≤ m.val → ((pl m.val (r.val + 1)).map tf).Pairwise (fun a b => ltOf cf b a = false) := by decide +kernel

theorem sorted_is {m r : Nat} (hm : m ≤ 4) (hr : r ≤ m) {d' : Array (Fin 16)} (hp : PermIn 0 ((ff r (2 ^ m)).map tf).toArray.size ((ff r (2 ^ m)).map tf).toArray d') (hs : SortedIn (ltOf cf) 0 ((ff r (2 ^ m)).map tf).toArray.size d') :
    d'.toList = (pl m (r + 1)).map tf := by
  obtain ⟨h1, _, h3⟩ := hp
  have e1 : (d'.extract 0 ((ff r (2 ^ m)).map tf).toArray.size).toList = d'.toList := by rw [← h1]; simp
  have e2 : (((ff r (2 ^ m)).map tf).toArray.extract 0 ((ff r (2 ^ m)).map tf).toArray.size).toList = (ff r (2 ^ m)).map tf := by
    simp only [Array.toList_extract, List.extract_eq_take_drop, List.drop_zero, Nat.sub_zero, List.size_toArray]
    exact List.take_length
  rw [e1, e2] at h3
  refine List.Perm.eq_of_pairwise (le := fun a b => ltOf cf b a = false) (fun a b _ _ ha hb => lt_anti a b ha hb) ?_ (pl_sort ⟨m, by omega⟩ ⟨r, by omega⟩ hr) (h3.trans (pl_perm ⟨m, by omega⟩ ⟨r, by omega⟩ hr))
  rw [List.pairwise_iff_getElem]
  intro i j hi hj hij
  have hi' : i < d'.size := by simpa using hi
  have hj' : j < d'.size := by simpa using hj
  have := hs i j (Nat.zero_le _) hij (by rw [← h1]; exact hj')
  rw [getElem!_pos d' i hi', getElem!_pos d' j hj'] at this
  simpa using this

/-- Words that lie in a block of the call's own. -/
theorem OwnU.row {w0 w : World} {v : Value} {z : List Nat} (h : OwnU w0 w v z) (h0 : 0 < z.length) : ∃ g cap rest, v = .slice (some ⟨g, 0, none⟩) z.length cap ∧ w0.heap.size ≤ g ∧ z.length ≤ cap ∧ cap ≤ maxLen ∧ Row w g 43 (uv z ++ rest) := by
  obtain ⟨he, h1, h2⟩ := h
  rcases h2 with ⟨_, h2⟩ | ⟨g, cap, cur, rfl, hg, hh, hc, hm, hs, ht⟩
  · omega
  · rw [Nat.mul_one] at ht hs
    refine ⟨g, cap, cur.toList.drop z.length, rfl, hg, hc, hm, ?_⟩
    show w.heap[g]? = _
    rw [hh, ← ht, List.take_append_drop]

theorem grownBy_row {w : World} {g n : Nat} {os : Array Obj} (d : Array (Fin 16)) : w.grownBy (sortWorld enc w g 0 n d os) (some g) := by
  refine ⟨rfl, rfl, rfl, by simp [sortWorld], fun k hk hne => ?_⟩
  unfold sortWorld
  rw [heap_grow_old _ _ (by simpa using hk)]
  have : g ≠ k := fun e => hne (by rw [e])
  simp [putRow, mapBlock, Sort.ahead, Array.getElem?_modify, this]

/-- slices.SortFunc of the words. -/
theorem sort_any {m r : Nat} (hm : m ≤ 4) (hr : r ≤ m) (w0 w : World) (v : Value) (h : OwnU w0 w v (ff r (2 ^ m))) :
    Calls Try.prog 24 #[v, .func (.func 25) #[] #[]] w fun e w' => e = .returned (.tuple #[]) ∧ Ext w0 w' ∧ ∃ x : Um, v = x.v ∧ x.z = pl m (r + 1) ∧ Us w' x := by
  have lim := pow_lim hm
  obtain ⟨g, cap, rest, rfl, hg, hc, hmx, hrow⟩ := h.row (ff_some (by omega))
  have hgw := hrow.lt
  have hH : Holds enc w g 0 ((ff r (2 ^ m)).map tf).toArray := fun j hj => by
    have hj' : j < (ff r (2 ^ m)).length := by simpa using hj
    have c := hrow.cell j (by simp; omega)
    rw [Nat.zero_add]
    refine ⟨?_, hrow.fr j⟩
    rw [c, List.getElem_append_left (by simpa using hj'), getElem!_pos _ j hj]
    have hl : (ff r (2 ^ m))[j] < 16 := Nat.lt_of_lt_of_le (ff_lt (List.getElem_mem hj')) (by omega)
    simp only [uv, List.getElem_map, List.getElem_toArray, enc]
    rw [tf_val hl]
  have hz : ((ff r (2 ^ m)).map tf).toArray.size = (ff r (2 ^ m)).length := by simp
  have hlen : (pl m (r + 1)).length = (ff r (2 ^ m)).length := by
    have := (pl_perm ⟨m, by omega⟩ ⟨r, by omega⟩ hr).length_eq
    simpa using this.symm
  have hsz : ((ff r (2 ^ m)).map tf).toArray.size < 4611686018427387904 := by
    have := ff_few r (2 ^ m)
    rw [hz]; omega
  have c := Any.slices_SortFunc sortU enc (fun _ => rfl) cf swo 25 #[] g 0 cap ((ff r (2 ^ m)).map tf).toArray w (enters_of Try.func25 (by kernel_rfl) rfl) (fun _ _ _ _ x y => order_any x y _) hH hgw hsz
  rw [hz] at c
  refine Calls.mono (c : Calls Try.prog 24 _ _ _) ?_
  rintro e w' ⟨rfl, d', n, os, hp, hs, rfl⟩
  have hd := sorted_is hm hr (by rw [hz]; exact hp) (by rw [hz]; exact hs)
  have hds : d'.size = ((ff r (2 ^ m)).map tf).toArray.size := hp.1
  refine ⟨rfl, Below.grown h.1 (grownBy_row d') h.1.size (fun k hk => by injection hk with hk; omega), ⟨some ⟨g, 0, none⟩, cap, pl m (r + 1)⟩, by simp only [Um.v]; rw [hlen], rfl, by show (pl m (r + 1)).length ≤ cap; omega, hmx, by simp, g, 0, fun _ => rfl, fun i hi => ?_⟩
  have hi1 : i < (pl m (r + 1)).length := hi
  have hi2 : i < d'.size := by rw [hds, hz]; omega
  have hh := (SW.holds (W := sortWorld enc w g 0 n d' os) ⟨n, os, rfl⟩ hgw hH hds i hi2).1
  rw [hh, getElem!_pos d' i hi2]
  have e1 : d'[i] = tf ((pl m (r + 1)).getD i 0) := by
    have q : d'.toList[i]? = ((pl m (r + 1)).map tf)[i]? := by rw [hd]
    rw [List.getElem?_eq_getElem (by simpa using hi2), List.getElem?_eq_getElem (by simpa using hi1)] at q
    simp only [Option.some.injEq, List.getElem_map, Array.getElem_toList] at q
    rw [q, List.getD_eq_getElem?_getD, List.getElem?_eq_getElem hi1]; rfl
  have hl := (l_at hm hr hi1).2
  rw [e1]
  show some (Value.int .u32 ((tf _).val : Int)) = _
  rw [tf_val (by omega)]

end Go.Proofs.Ytakojkekelhobaa
