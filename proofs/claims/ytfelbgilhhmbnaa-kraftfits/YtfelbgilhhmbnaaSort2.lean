/-
  slices.SortStableFunc over fewer than twenty numbers; kraft.shortestFirst.
-/
import Derived.Test.YtfelbgilhhmbnaaSort
import Derived.Test.YtfelbgilhhmbnaaCanon
import Derived.Test.YtfelbgilhhmbnaaSum
namespace Go.Proofs.Ytfelbgilhhmbnaa
open Go.RowKit

set_option maxHeartbeats 2000000 in
theorem stable_any (w0 w : World) (B c f : Nat) (lb : Array Value) (key : Int → Int) (l : List Int) (hB : w0.heap.size ≤ B) (hE : Ext w0 w) (hr : Row w B 3 (iv l)) (hinc : l.Pairwise (· < ·)) (hlen : l.length < 20)
    (eg : ∀ args w, (callFunc f args).run Try.prog w = .ok (.enter f args) w) (hc : CmpOn w0 f lb key l) :
    Calls Try.prog 42 #[.slice (some ⟨B, 0, none⟩) l.length c, .int .i64 l.length, .func (.func f) #[] lb] w
      fun e w' => e = .returned (.tuple #[]) ∧ ∃ l', Row w' B 3 (iv l') ∧ l'.Perm l ∧ l'.Pairwise (LexI key) ∧ Ext w0 w' := by
  have H := insertion_any w0 w B c f lb key l hB hE hr hinc (by omega) eg hc
  clear hE hr hinc eg hc
  have hz : ¬ (20 : Int) ≤ (l.length : Int) := by omega
  have hz2 : ¬ (20 : Int) < (l.length : Int) := by omega
  clear hlen
  generalize l.length = n at *
  go_enter Try.func42, Try.ntmps42
  go_wp2
  go_loopg [7, 8] 1 (fun _ s7 s8 wr => wr = w ∧ s7 = .int .i64 0 ∧ s8 = .int .i64 20)
  case atStart => exact ⟨rfl, rfl, rfl⟩
  case round =>
    obtain ⟨rfl, rfl, rfl⟩ := hrel
    go_wp2_with fail
    refine H.mono ?_
    rintro e w1 ⟨rfl, hP⟩
    have HP : Hid (∃ l', Row w1 B 3 (iv l') ∧ l'.Perm l ∧ l'.Pairwise (LexI key) ∧ Ext w0 w1) := hP
    clear hP
    go_wp2
    go_loopg [6, 7, 8, 9] 1 (fun _ s6 _ _ _ wr => wr = w1 ∧ s6 = .int .i64 20)
    case atStart => exact ⟨rfl, rfl⟩
    case round =>
      obtain ⟨rfl, rfl⟩ := hrel
      go_wp2
      go_end0
      exact ⟨rfl, HP.out⟩

set_option maxHeartbeats 2000000 in
theorem sortStable_any (w0 w : World) (B c f : Nat) (lb : Array Value) (key : Int → Int) (l : List Int) (hB : w0.heap.size ≤ B) (hE : Ext w0 w) (hr : Row w B 3 (iv l)) (hinc : l.Pairwise (· < ·)) (hlen : l.length < 20)
    (eg : ∀ args w, (callFunc f args).run Try.prog w = .ok (.enter f args) w) (hc : CmpOn w0 f lb key l) :
    Calls Try.prog 39 #[.slice (some ⟨B, 0, none⟩) l.length c, .func (.func f) #[] lb] w
      fun e w' => e = .returned (.tuple #[]) ∧ ∃ l', Row w' B 3 (iv l') ∧ l'.Perm l ∧ l'.Pairwise (LexI key) ∧ Ext w0 w' := by
  have H := stable_any w0 w B c f lb key l hB hE hr hinc hlen eg hc
  clear hE hr hinc eg hc hlen
  generalize l.length = n at *
  go_enter Try.func39, Try.ntmps39
  go_wp2_with fail
  refine H.mono ?_
  rintro e w1 ⟨rfl, hP⟩
  have HP : Hid (∃ l', Row w1 B 3 (iv l') ∧ l'.Perm l ∧ l'.Pairwise (LexI key) ∧ Ext w0 w1) := hP
  clear hP
  go_wp2
  go_end0
  exact ⟨rfl, HP.out⟩

/-- The length of a symbol's word. -/
def ml (z : List Int) (i : Nat) : Nat := (z.getD i 0).toNat
/-- .. as the program compares it. -/
def mz (z : List Int) (i : Int) : Int := z.getD i.toNat 0

set_option maxHeartbeats 1000000 in
theorem closure33_any (B0 : Nat) (z : Nm) (w : World) (hb : w.cell? ⟨B0, 0, none⟩ = some z.v) (hz : Nums w z) (x y : Int) (hx : 0 ≤ x ∧ x < z.z.length) (hy : 0 ≤ y ∧ y < z.z.length) :
    Calls Try.prog 40 (#[.int .i64 x, .int .i64 y] ++ #[.pointer (some ⟨B0, 0, none⟩)]) w fun e w' => e = .returned (.int .i64 (cmpI (mz z.z x) (mz z.z y))) ∧ Qt w w' := by
  show Calls Try.prog 40 #[.int .i64 x, .int .i64 y, .pointer (some ⟨B0, 0, none⟩)] w _
  obtain ⟨za, zc, zz⟩ := z
  obtain ⟨k1, k2, _, zb, zo, k4, k5⟩ := hz
  simp only [Nm.v] at *
  obtain ⟨i, rfl⟩ := Int.eq_ofNat_of_zero_le hx.1
  obtain ⟨j, rfl⟩ := Int.eq_ofNat_of_zero_le hy.1
  have e1 := k5 i (by omega)
  have e2 := k5 j (by omega)
  have hm1 : mz zz (i : Int) = zz.getD i 0 := by simp [mz]
  have hm2 : mz zz (j : Int) = zz.getD j 0 := by simp [mz]
  rw [hm1, hm2]
  obtain rfl := k4 (by omega)
  have hil := hx.2
  have hjl := hy.2
  clear hm1 hm2 k4 k5 hx hy
  unfold maxLen at k2
  generalize zz.getD i 0 = u at *
  generalize zz.getD j 0 = v at *
  generalize zz.length = n at *
  have hc : Hid (∀ W, Calls Try.prog 41 #[.int .i64 u, .int .i64 v] W fun e w' => e = .returned (.int .i64 (cmpI u v)) ∧ w' = W) := fun W => compare_any u v W
  go_enter Try.func40, Try.ntmps40
  go_wp2
  go_quiet ((go_at_call 41; exact Calls.quiet_of_same (hc.out _)))
  go_wp2
  go_ret
  exact ⟨rfl, _, rfl⟩

/-- The numbers from 0 on. -/
def upI (n : Nat) : List Int := (List.range n).map (fun i : Nat => (i : Int))
theorem upI_length (n : Nat) : (upI n).length = n := by simp [upI]
theorem upI_inc (n : Nat) : (upI n).Pairwise (· < ·) := by
  unfold upI
  rw [List.pairwise_map]
  have h0 : (List.range n).Pairwise (fun a b => a < b) := List.pairwise_lt_range
  exact h0.imp (fun h => by omega)
theorem mem_upI {n : Nat} {x : Int} : x ∈ upI n ↔ 0 ≤ x ∧ x < n := by
  unfold upI
  simp only [List.mem_map, List.mem_range]
  constructor
  · rintro ⟨i, hi, rfl⟩; omega
  · intro h; exact ⟨x.toNat, by omega, by omega⟩

theorem ml_le {z : List Int} (h : z.any outB = false) (i : Nat) (hi : i < z.length) : ml z i ≤ 8 ∧ z.getD i 0 = (ml z i : Int) := by
  have h1 := List.any_eq_false.1 h z[i] (List.getElem_mem hi)
  have h2 : outB z[i] = false := by simpa using h1
  obtain ⟨m, hm, hm8⟩ := outB_no h2
  have e : z.getD i 0 = z[i] := by simp [List.getD_eq_getElem?_getD, hi]
  unfold ml
  rw [e, hm]
  simp [hm8]

/-- Sorted so, they are in their order. -/
theorem sorted_up {z l : List Int} (hz : z.any outB = false) (hp : l.Perm (upI z.length)) (hs : l.Pairwise (LexI (mz z))) : l = (ord (ml z) z.length).map (fun i : Nat => (i : Int)) := by
  have hm : ∀ x ∈ l, 0 ≤ x ∧ x < z.length := fun x hx => mem_upI.1 (hp.subset hx)
  have e : l = (l.map Int.toNat).map (fun i : Nat => (i : Int)) := by
    rw [List.map_map]
    have : l.map ((fun i : Nat => (i : Int)) ∘ Int.toNat) = l.map id := List.map_congr_left (fun x hx => by have := hm x hx; simp; omega)
    rw [this, List.map_id]
  have h1 : (l.map Int.toNat).Pairwise (Lex (ml z)) := by
    rw [List.pairwise_map]
    refine hs.imp_of_mem ?_
    intro a b ha hb hab
    have ha' := hm a ha
    have hb' := hm b hb
    have la := (ml_le hz a.toNat (by omega)).2
    have lb := (ml_le hz b.toNat (by omega)).2
    simp only [LexI, mz] at hab
    rw [la, lb] at hab
    rcases hab with h | h
    · exact .inl (by omega)
    · exact .inr (by omega)
  have h2 : ∀ i, i ∈ l.map Int.toNat ↔ i < z.length := by
    intro i
    rw [List.mem_map]
    constructor
    · rintro ⟨x, hx, rfl⟩
      have := hm x hx
      omega
    · intro hi
      exact ⟨(i : Int), hp.symm.subset (mem_upI.2 (by omega)), by simp⟩
  rw [e, sorted_ord (fun i hi => (ml_le hz i hi).1) h1 h2]

theorem fill_step (w : World) (B k n : Nat) (hk : k < n) (h : Row w B 3 (iv (upI k ++ List.replicate (n - k) 0))) : Row (w.setCell ⟨B, k, none⟩ (.int .i64 k)) B 3 (iv (upI (k + 1) ++ List.replicate (n - (k + 1)) 0)) := by
  have := h.set k (.int .i64 k)
  have e : (iv (upI k ++ List.replicate (n - k) 0)).set k (.int .i64 k) = iv (upI (k + 1) ++ List.replicate (n - (k + 1)) 0) := by
    obtain ⟨d, rfl⟩ : ∃ d, n = k + 1 + d := ⟨n - (k + 1), by omega⟩
    rw [show k + 1 + d - k = d + 1 by omega, show k + 1 + d - (k + 1) = d by omega]
    have hl : ((upI k).map (Value.int .i64)).length = k := by simp [upI]
    unfold iv
    rw [List.map_append, List.set_append, if_neg (by omega), hl, Nat.sub_self, List.replicate_succ]
    unfold upI
    rw [List.range_succ]
    simp
  rw [e] at this
  exact this

set_option maxHeartbeats 2000000 in
theorem shortestFirst_any (z : Nm) (w : World) (hz : Nums w z) (h8 : z.z.length ≤ 8) (hok : z.z.any outB = false) :
    Calls Try.prog 33 #[z.v] w fun e w' => (∃ x : Nm, e = .returned x.v ∧ x.z = (ord (ml z.z) z.z.length).map (fun i : Nat => (i : Int)) ∧ Nums w' x) ∧ Ext w w' := by
  have eg : ∀ args w, (callFunc 40 args).run Try.prog w = .ok (.enter 40 args) w := enters_of Try.func40 (by kernel_rfl) rfl
  have w1 : ∃ w1, w1 = w.alloc (.cells #[z.v] 28) := ⟨_, rfl⟩
  obtain ⟨w1, hw1⟩ := w1
  have hs1 : w1.heap.size = w.heap.size + 1 := by rw [hw1]; simp
  have hE1 : Ext w w1 := by rw [hw1]; exact (Ext.refl w).alloc _
  have hbox : w1.cell? ⟨w.heap.size, 0, none⟩ = some z.v := by rw [hw1]; exact cell_of_one (heap_alloc_new w _)
  have HC : Hid (CmpOn w1 40 #[.pointer (some ⟨w.heap.size, 0, none⟩)] (mz z.z) (upI z.z.length)) := fun W x y hx hy hE =>
    closure33_any w.heap.size z W (hE.cell hbox) (hz.ext (hE1.trans hE)) x y (mem_upI.1 hx) (mem_upI.1 hy)
  have HS : Hid (∀ W l, Ext w1 W → Row W (w.heap.size + 1) 3 (iv (upI z.z.length)) → l = z.z.length → Calls Try.prog 39 #[.slice (some ⟨w.heap.size + 1, 0, none⟩) l l, .func (.func 40) #[] #[.pointer (some ⟨w.heap.size, 0, none⟩)]] W
      fun e w' => e = .returned (.tuple #[]) ∧ (∃ l', Row w' (w.heap.size + 1) 3 (iv l') ∧ l' = (ord (ml z.z) z.z.length).map (fun i : Nat => (i : Int))) ∧ Ext w w') := by
    intro W l hE hr hl
    subst hl
    have := sortStable_any w1 W (w.heap.size + 1) z.z.length 40 #[.pointer (some ⟨w.heap.size, 0, none⟩)] (mz z.z) (upI z.z.length) (by omega) hE hr (upI_inc _) (by rw [upI_length]; omega) eg HC.out
    rw [upI_length] at this
    refine this.mono ?_
    rintro e w' ⟨rfl, l', h1, h2, h3, h4⟩
    exact ⟨rfl, ⟨l', h1, sorted_up hok h2 h3⟩, hE1.trans h4⟩
  have HO : Hid ((ord (ml z.z) z.z.length).length = z.z.length) := by
    have : (ord (ml z.z) z.z.length).Perm (List.range z.z.length) := by
      rw [List.perm_ext_iff_of_nodup (nodup_of_sorted (ord_sorted _ _)) List.nodup_range]
      intro a
      rw [mem_ord (fun i hi => (ml_le hok i hi).1), List.mem_range]
    show _ = _
    rw [this.length_eq, List.length_range]
  generalize ord (ml z.z) z.z.length = od at *
  clear hz hok eg HC hbox
  obtain ⟨za, zc, zz⟩ := z
  simp only [Nm.v] at *
  generalize zz.length = n at *
  have st : Hid (∃ W, W = (w.alloc (.cells #[.slice za n zc] 28)).alloc (.cells (madeCells #[.int .i64 0] n) 3) ∧ Ext w1 W ∧ Row W (w.heap.size + 1) 3 (iv (upI 0 ++ List.replicate (n - 0) 0))) := by
    refine ⟨_, rfl, by rw [hw1]; exact (Ext.refl _).alloc _, ?_⟩
    have := Row.made (w.alloc (.cells #[.slice za n zc] 28)) 3 (.int .i64 0) n
    simpa [upI] using this
  have HB : Hid (w1.heap.size ≤ w.heap.size + 1) := Nat.le_of_eq hs1
  clear hw1 hs1 hE1
  have hmk := run_make_row' (P := Try.prog) 28 3 (.int .i64 0) 8 Try.underlying28 info3 rfl .i64 .i64 n (by omega) (by omega)
  go_enter Try.func33, Try.ntmps33
  go_wp2
  obtain ⟨W, hW, hE, hR⟩ := st.out
  rw [← hW]
  have HE : Hid (Ext w1 W) := hE
  have HR : Hid (Row W (w.heap.size + 1) 3 (iv (upI 0 ++ List.replicate (n - 0) 0))) := hR
  clear hW hE hR st hmk
  go_loopg [4, 10] n (fun gg _ s wr => ∃ k : Nat, k ≤ n ∧ n - k ≤ gg ∧ s = .int .i64 k ∧ Aside (Ext w1 wr) ∧ Aside (Row wr (w.heap.size + 1) 3 (iv (upI k ++ List.replicate (n - k) 0))))
  case atStart => exact ⟨0, Nat.zero_le _, by omega, rfl, HE.out, HR.out⟩
  case round =>
    obtain ⟨k, hk, hgg, rfl, BW, A⟩ := hrel
    by_cases hlt : k < n
    · have hltz : (k : Int) < (n : Int) := by omega
      have f1 := A.out.fr k
      have c1 : ∃ v, wr.cell? ⟨w.heap.size + 1, k, none⟩ = some v := ⟨_, A.out.cell k (by simp [upI]; omega)⟩
      obtain ⟨v, c1⟩ := c1
      have nx : Hid (Row (wr.setCell ⟨w.heap.size + 1, k, none⟩ (.int .i64 k)) (w.heap.size + 1) 3 (iv (upI (k + 1) ++ List.replicate (n - (k + 1)) 0))) := fill_step wr _ k n hlt A.out
      have nE : Hid (Ext w1 (wr.setCell ⟨w.heap.size + 1, k, none⟩ (.int .i64 k))) := BW.out.setCell HB.out _
      go_wp2
      go_roundg (n - (k + 1))
      case measure => omega
      case rel => exact ⟨k + 1, by omega, by omega, by go_num, nE.out, nx.out⟩
    · have hk' : k = n := by omega
      have HR2 : Hid (Row wr (w.heap.size + 1) 3 (iv (upI n))) := by
        have := A.out
        rw [hk', Nat.sub_self, List.replicate_zero, List.append_nil] at this
        exact this
      clear A
      go_wp2_with fail
      refine (HS.out wr n BW.out HR2.out (by simp)).mono ?_
      rintro e w2 ⟨rfl, ⟨l', h1, h2⟩, h3⟩
      have F : Hid ((∃ x : Nm, Value.slice (some ⟨w.heap.size + 1, 0, none⟩) n n = x.v ∧ x.z = od.map (fun i : Nat => (i : Int)) ∧ Nums w2 x) ∧ Ext w w2) := by
        refine ⟨⟨⟨some ⟨w.heap.size + 1, 0, none⟩, n, l'⟩, ?_, h2, ?_⟩, h3⟩
        · simp only [Nm.v]
          rw [h2, List.length_map, HO.out]
        · have := h1.nums (by rw [h2, List.length_map, HO.out]; unfold maxLen; omega)
          rw [h2, List.length_map, HO.out] at this
          rw [h2]
          exact this
      clear h1 h2 h3
      go_wp2
      go_ret
      obtain ⟨⟨x, hx, hz, hn⟩, hE⟩ := F.out
      exact ⟨⟨x, congrArg Ending.returned hx, hz, hn⟩, hE⟩

end Go.Proofs.Ytfelbgilhhmbnaa
