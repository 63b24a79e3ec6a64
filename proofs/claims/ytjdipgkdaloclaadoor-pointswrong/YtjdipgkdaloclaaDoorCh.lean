/-
  points.choices: its function value, and what a loop over it keeps.
-/
import Derived.Test.YtjdipgkdaloclaaDoorIt
import Derived.Test.YtjdipgkdaloclaaDoorPl
import Derived.Test.YtjdipgkdaloclaaDoorOn
import Derived.RangeFuncBox
import Derived.Shelf.Abstract
import Derived.Shelf.RegionOpen
import Derived.Stop.RegionWithIn
import Derived.Sort.QuietIn
import Derived.Sort.QuietTacIn
import Derived.WalkKit
import Derived.OwnWalkIn
import Derived.TacticsInMore
import Derived.LoopNIn
import Derived.LoopIn
namespace Go.Proofs.YtjdipgkdaloclaaDoor
open Go.RowKit Go.Shelf

theorem wide_fn (f : FuncId) : Fence.wide.fn f = True := rfl

attribute [local go_sem] Oper.semAt_some wide_fn

theorem nums_put (x : Nm) (A : World) (l : Nat) (o o' : Obj) (h : Nums A x) (hl : A.heap[l]? = some o) (ho : o.isCells = false) : Nums (A.putObj l o') x := by
  obtain ⟨h1, h2, h0, b, off, h3, h4⟩ := h
  refine ⟨h1, h2, h0, b, off, h3, fun i hi => ?_⟩
  have hc := h4 i hi
  obtain ⟨oc, hoc, hcc⟩ := cells_of_cell hc
  have hne : b ≠ l := fun e => by
    simp only at hoc
    rw [e, hl] at hoc
    injection hoc with hoc
    rw [hoc] at ho
    rw [ho] at hcc
    cases hcc
  exact (World.cell?_of_block (World.putObj_heap_other hne)).trans hc

/-- What is handed on at a set: its places, in memory. -/
def Td (s : Nat) (x : Nm) (A : World) : Prop := x.z = zl (pl s) ∧ Nums A x

set_option maxRecDepth 100000 in
set_option maxHeartbeats 2000000 in
theorem choices_in (m : Nat) (hm : 1 ≤ m) (n k Bn Bk : Nat) (hn : n ≤ 9) (w0 : World) (bn : Boxed w0 Bn 3 (.int .i64 n)) (bk : Boxed w0 Bk 3 (.int .i64 k)) (tb : TB w0) :
    SeqE Fence.wide m Tryd.prog 22 #[.pointer (some ⟨Bn, 0, none⟩), .pointer (some ⟨Bk, 0, none⟩)] (fun x : Nm => #[x.v]) Td (fun s => pop s = k) (2 ^ n) w0 := by
  intro l J Jx W hW hJe hJn hY hJ0
  have p2 : 2 ^ n ≤ 2 ^ 9 := Nat.pow_le_pow_right (by omega) hn
  have hcn : ∀ A, Below w0.heap.size w0 A → A.cell? ⟨Bn, 0, none⟩ = some (.int .i64 n) := fun A h => (h.cell (p := ⟨Bn, 0, none⟩) bn.lt).trans bn.cell
  have hck : ∀ A, Below w0.heap.size w0 A → A.cell? ⟨Bk, 0, none⟩ = some (.int .i64 k) := fun A h => (h.cell (p := ⟨Bk, 0, none⟩) bk.lt).trans bk.cell
  have htb : ∀ A, Below w0.heap.size w0 A → TB A := fun A h => tb.ext h
  have HN := hcn W hW
  have HK : Hid (∀ A, Below w0.heap.size w0 A → A.cell? ⟨Bk, 0, none⟩ = some (.int .i64 k)) := hck
  have HW : Hid (Below w0.heap.size w0 W) := hW
  have ON : Hid (∀ (s : Nat) A, s < 512 → CallsIn Fence.wide (m - 1) Tryd.prog 23 #[.int .u32 s] A fun e B => e = .returned (.int .i64 (pop s : Nat)) ∧ ∃ d, B = A.drewN d) := fun s A hs => callsIn_wide.2 (ones_any s (by omega) A)
  have PO : Hid (∀ (s : Nat) A, s < 512 → Below w0.heap.size w0 A → CallsIn Fence.wide (m - 1) Tryd.prog 24 #[.int .u32 s] A fun e B => ∃ x : Nm, e = .returned x.v ∧ Td s x B ∧ Ext A B) := fun s A hs hA => callsIn_wide.2 ((po_any s hs A (htb A hA)).mono fun e B ⟨v, he, O⟩ => by
    obtain ⟨x, rfl, hx, hN⟩ := O.nums
    exact ⟨x, he, ⟨hx, hN⟩, O.1⟩)
  have HY : Hid (∀ s x A, s < 2 ^ n → pop s = k → J s A → Td s x A → YieldAt Fence.wide (m - 1) Tryd.prog l #[x.v] A fun e B => ∃ b : Bool, e = .returned (.bool b) ∧ (b = true → J (s + 1) B ∧ Below w0.heap.size A B) ∧ (b = false → Jx B)) := hY
  have HE : Hid (∀ s A B, J s A → Ext A B → J s B) := hJe
  have HJ : Hid (∀ s A, s < 2 ^ n → ¬ pop s = k → J s A → J (s + 1) A) := hJn
  have H0 : Hid (J 0 W) := hJ0
  have hsh : (2 : Int) ^ n % 4294967296 = ((2 ^ n : Nat) : Int) := by
    have e : (2 : Int) ^ n = ((2 ^ n : Nat) : Int) := by rw [Int.natCast_pow]; rfl
    rw [e]
    generalize 2 ^ n = M at *
    omega
  clear bn bk tb hW hcn hck htb hY hJe hJn hJ0
  generalize 2 ^ n = M at *
  refine callsIn_of_wp Tryd.func22 rfl trivial ?_ rfl
  simp only [Tryd.ntmps22, List.size_toArray, List.length_cons, List.length_nil, Nat.reduceAdd, Nat.reduceSub, Array.replicate_succ, Array.replicate_zero, List.push_toArray, List.append_toArray, List.nil_append, List.cons_append]
  gi_wp2
  rw [hsh]
  clear hsh
  gi_loopw [4, 7] (fun _ s7 wr => ∃ s : Nat, s ≤ M ∧ s7 = .int .u32 s ∧ J s wr ∧ Below w0.heap.size w0 wr)
    (fun _ s7 _ => M - (intOf s7).toNat)
  case atStart => exact ⟨0, Nat.zero_le _, rfl, H0.out, HW.out⟩
  case round =>
    obtain ⟨s, hs, rfl, hJs, hB⟩ := hrel
    by_cases hlt : s < M
    · have hltz : (s : Int) < (M : Int) := by omega
      have hck := HK.out wr hB
      have on := ON.out s
      by_cases hp : pop s = k
      · have HJs : Hid (J s wr) := hJs
        have HBs : Hid (Below w0.heap.size w0 wr) := hB
        have hpk : (((pop s : Nat) : Int) == (k : Int)) = true := beq_iff_eq.2 (by omega)
        clear hJs hB
        have on1 : CallsIn Fence.wide (m - 1) Tryd.prog 23 #[.int .u32 s] wr.drew fun e B => e = .returned (.int .i64 (pop s : Nat)) ∧ B.cell? ⟨Bk, 0, none⟩ = some (.int .i64 k) ∧
            CallsIn Fence.wide (m - 1) Tryd.prog 24 #[.int .u32 s] B fun e C => ∃ (x : Nm) (fn : Nat) (tmps : Array Value) (assign body : Code), e = .returned x.v ∧ (Instr.yield l #[x.v]).run Tryd.prog C = .ok (.round l fn tmps assign body) C ∧
              RoundIn Fence.wide (m - 1) Tryd.prog l fn tmps assign body C fun e D => ∃ b : Bool, e = .returned (.bool b) ∧ Aside (b = true → J (s + 1) D ∧ Below w0.heap.size w0 D) ∧ Aside (b = false → Jx D) :=
          (on wr.drew (by omega)).mono fun e B ⟨he, d, hBd⟩ => by
            have q : Ext wr B := by rw [hBd]; exact (ext_drew wr).drewN d
            have b2 : Below w0.heap.size w0 B := HBs.out.trans (q.mono HBs.out.size)
            refine ⟨he, HK.out B b2, (PO.out s B (by omega) b2).mono fun e C ⟨x, hx, ht, E⟩ => ?_⟩
            have b3 : Below w0.heap.size w0 C := b2.trans (E.mono b2.size)
            obtain ⟨fn, tmps, assign, body, hy, hR⟩ := HY.out s x C hlt hp (HE.out s wr C HJs.out (q.trans E)) ht
            exact ⟨x, fn, tmps, assign, body, hx, hy, hR.mono fun e D ⟨b, h1, h2, h3⟩ => ⟨b, h1, fun hb => ⟨(h2 hb).1, b3.trans (h2 hb).2⟩, h3⟩⟩
        clear on HJs HBs PO ON HK HY HE HJ H0 HW
        generalize pop s = ps at *
        gi_wp2_with fail
        gi_region_with (first | (refine on1.mono ?_; rintro e w5 ⟨rfl, hck5, po⟩) | (refine po.mono ?_; rintro e w7 ⟨x, fn, tmps, assign, body, rfl, hy, hR⟩) | (refine hR.mono ?_; rintro e w8 ⟨b, rfl, hb1, hb2⟩))
        all_goals
          cases b
          · have hx := hb2.out rfl
            clear hb1 hb2
            gi_wp2
            refine bodyPost_ret (results_none rfl _ _ _) rfl ?_
            exact ⟨⟨_, rfl⟩, .inr hx⟩
          · have hx := hb1.out rfl
            clear hb1 hb2
            gi_wp2
            go_roundw
            case rel =>
              exact ⟨s + 1, by omega, by go_num, hx.1, hx.2⟩
            case measure => simp [intOf]; omega
      · have hpk : (((pop s : Nat) : Int) == (k : Int)) = false := beq_eq_false_iff_ne.2 (by omega)
        have HJ1 := HJ.out s wr hlt hp hJs
        have on2 : ∀ q, CallsIn Fence.wide (m - 1) Tryd.prog 23 #[.int .u32 s] (wr.drewN q) fun e B => e = .returned (.int .i64 (pop s : Nat)) ∧ ∃ d, B = (wr.drewN q).drewN d := fun q => on (wr.drewN q) (by omega)
        have HF : Hid (∀ q, J (s + 1) (wr.drewN q) ∧ Below w0.heap.size w0 (wr.drewN q)) := fun q => ⟨HE.out _ _ _ HJ1 ((Ext.refl wr).drewN q), hB.trans (((Ext.refl wr).drewN q).mono hB.size)⟩
        have on3 : Hid (∀ q, CallsIn Fence.wide (m - 1) Tryd.prog 23 #[.int .u32 s] (wr.drewN q) fun e B => e = .returned (.int .i64 (pop s : Nat)) ∧ ∃ d, B = (wr.drewN q).drewN d) := on2
        clear on on2 PO ON HK HY HE HJ H0 HW hJs hB HJ1
        generalize pop s = ps at *
        gi_wp2_with fail
        gi_quiet ((gi_at_call 23; exact CallsIn.quiet_of (on3.out _)))
        have hx := HF.out nq
        gi_wp2
        go_roundw
        case rel => exact ⟨s + 1, by omega, by go_num, hx.1, hx.2⟩
        case measure => simp [intOf]; omega
    · obtain rfl : s = M := by omega
      gi_wp2
      go_end0
      exact ⟨⟨_, rfl⟩, .inl hJs⟩

end Go.Proofs.YtjdipgkdaloclaaDoor
