/-
  slices.Backward of numbers below 16: whatever a loop over it keeps between two rounds holds behind the last one, when all numbers have come, the last one first.
-/
import Derived.RangeFuncNested
import Derived.RangeFuncBound
import Derived.RangeFuncCalls
import Derived.RangeFuncLeaves
import Derived.RangeFuncBox
import Derived.Shelf.Abstract
import Derived.Shelf.RegionOpen
import Derived.WalkKit
import Derived.OwnWalkIn
import Derived.TacticsInMore
import Derived.LoopNIn
import Derived.LoopIn
import Derived.Test.YtjdipgkdaloclaaDoorChecked
namespace Go.Proofs.YtjdipgkdaloclaaDoor
open Go.RowKit Go.Shelf

attribute [local go_sem] Oper.semAt_some

/-- What has come when k rounds are over. -/
def upto {α : Type} (f : Nat → α) (k : Nat) : List α := (List.range k).map f
theorem upto_succ {α : Type} (f : Nat → α) (k : Nat) : upto f (k + 1) = upto f k ++ [f k] := by simp [upto, List.range_succ]
theorem upto_length {α : Type} (f : Nat → α) (k : Nat) : (upto f k).length = k := by simp [upto]

/-- What comes in round k: the place, and the number there. -/
abbrev bk (Z : Nat → Fin 16) (len k : Nat) : Nat × Fin 16 := (len - 1 - k, Z (len - 1 - k))

/-- What a round keeps: all below n₀, and the box of the list. -/
def kb (n₀ Bs : Nat) (W W' : World) : Prop := Below n₀ W W' ∧ ∀ v, Boxed W Bs 22 v → Boxed W' Bs 22 v
theorem kb.refl (n₀ Bs : Nat) (W : World) : kb n₀ Bs W W := ⟨Below.refl _ _, fun _ h => h⟩
theorem kb_t {n₀ Bs : Nat} {A B C : World} (h : kb n₀ Bs A B) (k : kb n₀ Bs B C) : kb n₀ Bs A C := ⟨h.1.trans k.1, fun v hv => k.2 v (h.2 v hv)⟩
theorem kb_b {n₀ Bs : Nat} {w : World} (hn : n₀ ≤ w.heap.size) (hB : Bs < w.heap.size) (W : World) (l : Nat) (o o' : Obj) (hl : w.heap.size ≤ l) (h : W.heap[l]? = some o) (hc : o.isCells = false) (hw : o.isWalk = false) : kb n₀ Bs W (W.putObj l o') :=
  ⟨belowK_b hn W l o o' hl h hc hw, fun v hv => hv.kept (grownBy_putObj' W l o') (fun e => by cases e; omega)⟩

set_option maxRecDepth 100000 in
set_option maxHeartbeats 2000000 in
theorem back1_in (F : Fence) (n : Nat) (h8 : F.fn 37) (hro : F.round = none) (hn : 1 ≤ n) (l Bs n₀ : Nat) (a : Option Addr) (b off len cap : Nat) (Z : Nat → Fin 16) (hreach : len * 8 ≤ 140737488355328) (hb : 0 < len → b < n₀) (ha : 0 < len → a = some ⟨b, off, none⟩) (J Jx : List (Nat × Fin 16) → World → Prop)
    (hY : ∀ pre x W, J pre W → pre.length < len → YieldAt F (n - 1) Tryd.prog l #[.int .i64 (x.1 : Int), .int .i64 (x.2.val : Int)] W fun e W' =>
      (e = .returned (.bool true) ∧ J (pre ++ [x]) W' ∧ kb n₀ Bs W W') ∨ (e = .returned (.bool false) ∧ Jx (pre ++ [x]) W'))
    (W : World) (hBs : Boxed W Bs 22 (.slice a len cap)) (hc : ∀ j, j < len → W.cell? ⟨b, off + j, none⟩ = some (.int .i64 ((Z j).val : Int))) (h0 : J [] W) :
    CallsIn F n Tryd.prog 37 #[.func (.yield l) #[] #[], .pointer (some ⟨Bs, 0, none⟩)] W fun e W' => (∃ v, e = .returned v) ∧
      ((∃ ys, ys = upto (bk Z len) len ∧ J ys W') ∨ (∃ pre, (∃ k, k ≤ len ∧ pre = upto (bk Z len) k) ∧ Jx pre W')) := by
  have hbx0 := hBs.cell
  refine callsIn_of_wp Tryd.func37 rfl h8 ?_ hro
  simp only [Tryd.ntmps37, List.size_toArray, List.length_cons, List.length_nil, Nat.reduceAdd, Nat.reduceSub, Array.replicate_succ, Array.replicate_zero, List.push_toArray, List.append_toArray, List.nil_append, List.cons_append]
  gi_wp2
  gi_loopw [3] (fun i wr => ∃ m : Nat, m ≤ len ∧ i = .int .i64 ((m : Int) - 1) ∧ J (upto (bk Z len) (len - m)) wr ∧ kb n₀ Bs W wr)
    (fun i _ => (intOf i + 1).toNat)
  case atStart => exact ⟨len, Nat.le_refl _, rfl, by rw [Nat.sub_self]; exact h0, kb.refl _ _ _⟩
  case round =>
    obtain ⟨m, hm, rfl, hJs, hnx⟩ := hrel
    cases m with
    | zero =>
      have hz : ((0 : Nat) : Int) - 1 = -1 := rfl
      rw [hz]
      gi_wp2
      go_end0
      exact ⟨⟨_, rfl⟩, .inl ⟨_, rfl, hJs⟩⟩
    | succ j =>
      have hz : ((j + 1 : Nat) : Int) - 1 = (j : Int) := by omega
      rw [hz]
      have hcx := (hnx.1.cell (p := ⟨b, off + j, none⟩) (hb (by omega))).trans (hc j (by omega))
      obtain rfl := ha (by omega)
      have hbx := (hnx.2 _ hBs).cell
      have hk : bk Z len (len - (j + 1)) = (j, Z j) := by
        have : len - 1 - (len - (j + 1)) = j := by omega
        simp only [bk, this]
      have hs : upto (bk Z len) (len - j) = upto (bk Z len) (len - (j + 1)) ++ [(j, Z j)] := by
        rw [show len - j = len - (j + 1) + 1 by omega, upto_succ, hk]
      obtain ⟨fn, tmps, assign, body, hy, hR⟩ := hY _ (j, Z j) wr hJs (by rw [upto_length]; omega)
      dsimp only at hy
      have hjl : (j : Int) < (len : Int) := by omega
      gi_wp2
      refine hR.mono ?_
      rintro e W3 (⟨rfl, hJ3, hk3⟩ | ⟨rfl, hJx3⟩)
      · gi_wp2
        go_roundw
        case rel => exact ⟨j, by omega, by simp, by rw [hs]; exact hJ3, kb_t hnx hk3⟩
        case measure => simp [intOf]
      · gi_wp2
        refine bodyPost_ret (results_none rfl _ _ _) rfl ?_
        exact ⟨⟨_, rfl⟩, .inr ⟨_, ⟨len - j, by omega, hs.symm⟩, hJx3⟩⟩

set_option maxHeartbeats 1000000 in
/-- slices.Backward: the list is boxed, the function value holds the box. -/
theorem back_in (F : Fence) (n : Nat) (h5 : F.fn 35) (hro : F.round = none) (a : Option Addr) (len cap : Nat) (w : World) :
    CallsIn F n Tryd.prog 35 #[.slice a len cap] w fun e w' => e = .returned (.func (.func 37) #[] #[.pointer (some ⟨w.heap.size, 0, none⟩)]) ∧ w' = w.alloc (.cells #[.slice a len cap] 22) := by
  refine callsIn_of_wp Tryd.func35 rfl h5 ?_ hro
  simp only [Tryd.ntmps35, List.size_toArray, List.length_cons, List.length_nil, Nat.reduceAdd, Nat.reduceSub, Array.replicate_succ, Array.replicate_zero, List.push_toArray, List.append_toArray, List.nil_append, List.cons_append]
  gi_wp2
  go_ret
  exact ⟨rfl, rfl⟩

theorem back_stops (F : Fence) (n : Nat) (h8 : F.fn 37) (hro : F.round = none) (hn : 1 ≤ n) (Bs n₀ : Nat) (a : Option Addr) (b off len cap : Nat) (Z : Nat → Fin 16) (hreach : len * 8 ≤ 140737488355328) (hb : 0 < len → b < n₀) (ha : 0 < len → a = some ⟨b, off, none⟩)
    (w : World) (hBs : Boxed w Bs 22 (.slice a len cap)) (hc : ∀ j, j < len → w.cell? ⟨b, off + j, none⟩ = some (.int .i64 ((Z j).val : Int))) :
    SeqStopsK F n Tryd.prog 37 #[.pointer (some ⟨Bs, 0, none⟩)] (fun x : Nat × Fin 16 => #[Value.int .i64 (x.1 : Int), Value.int .i64 (x.2.val : Int)]) (kb n₀ Bs) (fun ys => ys = upto (bk Z len) len)
      (fun pre => ∃ k, k ≤ len ∧ pre = upto (bk Z len) k) len w := fun l J Jx W hW _ _ hY h0 =>
  back1_in F n h8 hro hn l Bs n₀ a b off len cap Z hreach hb ha J Jx hY W ((hW.block Bs hBs.lt).trans hBs) (fun j hj => (hW.cell (p := ⟨b, off + j, none⟩) (World.block_lt_of_cell? _ _ (hc j hj))).trans (hc j hj)) h0

end Go.Proofs.YtjdipgkdaloclaaDoor
