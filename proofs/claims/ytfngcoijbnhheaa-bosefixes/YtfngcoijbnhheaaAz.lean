/-
  append(l, make([]bool, k)...): as many zeros behind a list of the call's own.
-/
import Derived.Test.YtfngcoijbnhheaaOw
import Derived.Lib.AppendZerosOnto
namespace Go.Proofs.Ytfngcoijbnhheaa
open Go.RowKit
set_option linter.unusedVariables false

theorem zeroCells_bools (k : Nat) : Builtin.zeroCells (Value.cells (.bool false)) k = (bv (List.replicate k false)).toArray := by
  apply Array.ext
  · rw [size_zeroCells]; simp [Value.cells]
  · intro i h1 h2
    simp [Builtin.zeroCells, Value.cells, Nat.mod_one]

theorem run_append_room_zeros {P : Program} (w : World) (t tn ty e : TypeId) (i : TypeInfo) (kn : IntKind) (ht : P.underlying t = some (.slice e)) (htn : P.underlying tn = some (.int kn)) (hi : P.info? e = some i) (hz : i.zero = some (.bool false)) (hsz : i.size = 1)
    (g sLen sCap : Nat) (cur : Array Value) (hg : w.heap[g]? = some (.cells cur e (0, 0))) (k : Nat) (h0 : 0 < k) (hroom : sLen + k ≤ sCap) (hfit : sLen + k ≤ cur.size) (h63 : (k : Int) ≤ 9223372036854775807) (h48 : k * i.bytes ≤ 281474976710656) :
    (Builtin.append_ #[t, tn] ty #[.slice (some ⟨g, 0, none⟩) sLen sCap, .int .i64 k]).run P w =
      .ok (.slice (some ⟨g, 0, none⟩) (sLen + k) sCap) (w.setRow g (cur.toList.take sLen ++ bv (List.replicate k false) ++ cur.toList.drop (sLen + k)).toArray) := by
  have hw : IntKind.i64.wrap (k : Int) = k := by rw [IntKind.wrap_i64]; omega
  have hk : k ≠ 0 := by omega
  have h48i : ¬ (281474976710656 < (k : Int) * (i.bytes : Int)) := by
    rw [← Int.natCast_mul]
    omega
  have hneg : ¬ ((k : Int) < 0) := by omega
  have hst := run_storeCells_at P g sLen e (bv (List.replicate k false)) 0 cur w hg (by simpa using hfit) (fun u hu => by
    obtain ⟨q, _, rfl⟩ := List.mem_map.1 hu
    rfl)
  simp only [Nat.add_zero, List.length_map, List.length_replicate] at hst
  have hzc := zeroCells_bools k
  simp [Builtin.append_, run_underlying ht, run_underlying htn, sizeOf, typeInfo, zeroValue, hi, hz, hsz, asInt, asIntOf, hw, hneg, hk, h48i, hroom, Addr.add_lit, hzc]
  rw [show bv (List.replicate k false) = List.replicate k (Value.bool false) by simp] at hst
  have hst' : Sem.run P (storeCells { block := g, off := sLen } (List.replicate k (Value.bool false))) w = _ := hst
  rw [hst']
  simp

theorem under3 : Try.prog.underlying 3 = some (.int .i64) := by kernel_rfl

set_option maxHeartbeats 1000000 in
theorem wpList_appendZeros {ops : Array Oper} {rest : List Oper} {o : Oper} {a : Act} {Q : Exit → Act → World → Prop} (hgd : o.guard = none) (s x : Operand)
    (ho : o.op = .call { callee := .builtin .append, args := #[s, x], argTypes := #[22, 3] }) (w0 wr : World) (v : Value) (hs : a.eval s = v) (l : List Bool) (hown : OwnB w0 wr v l)
    (k : Nat) (h0 : 0 < k) (hx : a.eval x = .int .i64 k) (hb : l.length + k ≤ 1000)
    (h : ∀ v' w', OwnB w0 w' v' (l ++ List.replicate k false) → wpList Try.prog ops Q rest (a.put o.dst v') w') : wpList Try.prog ops Q (o :: rest) a wr := by
  obtain ⟨i0, hi, hz0, hz1, hz2⟩ := info_parts info4
  have he := hown.1
  have hown' := hown.2
  have grown : ∀ (base : Option Addr) (n cap : Nat), n = l.length → cap < n + k → v = .slice base n cap → (Builtin.firstCells i0.size n (.slice base n cap)).run Try.prog wr.drew = .ok (bv l).toArray wr.drew → Builtin.nextslicecap (n + k) cap * i0.bytes ≤ 281474976710656 → wpList Try.prog ops Q (o :: rest) a wr := by
    intro base n cap hn hc hv hf hfit
    subst hn
    have hr := Lib.run_append_grow_zeros (P := Try.prog) wr 22 3 o.type 4 i0 (.bool false) .i64 .i64 Try.underlying22 under3 hi hz0 base l.length cap (bv l) hf k h0 (by omega) hc (by omega) (by rw [hz2]; omega) hfit
    refine Lib.wpList_append_run wr hgd s x 22 3 ho _ _ (hs.trans hv) hx _ _ hr (h _ _ ⟨?_, ?_⟩)
    · exact (he.drewN 1).alloc _
    · have hge := grownCap_ge wr (l.length + k) cap 4
      have hcm := grownCap_le_maxLen wr (l.length + k) cap 4 (by unfold maxLen; omega)
      refine ⟨by simp, .inr ⟨wr.heap.size, _, _, by rw [List.length_append, List.length_replicate], he.size, heap_alloc_new wr.drew _, by simpa using hge, hcm, ?_, ?_⟩⟩
      · rw [Array.size_append, Array.size_append, size_zeroCells, size_zeroCells]
        simp [Value.cells]
        omega
      · rw [zeroCells_bools, zeroCells_bools]
        simp only [Array.toList_append, List.length_append, List.length_replicate, Nat.mul_one, List.map_append]
        rw [List.take_append_of_le_length (by simp), List.take_of_length_le (by simp)]
  obtain ⟨h1, h2⟩ := hown'
  rcases h2 with ⟨hv, h2⟩ | ⟨g, cap, cur, hv, hg, hh, hc, hm, hsz, ht⟩
  · have hl0 : l = [] := List.eq_nil_of_length_eq_zero h2
    subst hl0
    refine grown none 0 0 rfl (by omega) hv (by simpa using run_firstCells_none wr.drew i0.size 0 0 0) ?_
    rw [hz2]
    exact growslice_fits (by omega) (by omega)
  · by_cases hroom : l.length + k ≤ cap
    · have hr := run_append_room_zeros (P := Try.prog) wr 22 3 o.type 4 i0 .i64 Try.underlying22 under3 hi hz0 (by simpa using hz1) g l.length cap cur hh k h0 hroom (by omega) (by omega) (by rw [hz2]; omega)
      refine Lib.wpList_append_run wr hgd s x 22 3 ho _ _ (hs.trans hv) hx _ _ hr (h _ _ ⟨?_, ?_⟩)
      · exact Below.trans he ⟨rfl, rfl, rfl, by simp [World.setRow], fun j hj => setRow_other wr g j _ (by omega)⟩
      · refine ⟨by simp, .inr ⟨g, cap, _, by rw [List.length_append, List.length_replicate], hg, setRow_heap wr g cur _ 4 _ hh, by simpa using hroom, hm, ?_, ?_⟩⟩
        · simp
          omega
        · have e1 : cur.toList.take l.length = bv l := by rw [Nat.mul_one] at ht; exact ht
          rw [e1]
          simp only [List.length_append, List.length_replicate, Nat.mul_one, List.map_append]
          rw [List.take_append_of_le_length (by simp), List.take_of_length_le (by simp)]
    · have hr := run_firstCells_some (P := Try.prog) wr.drew i0.size l.length ⟨g, 0, none⟩ l.length cap (bv l) (by rw [hz1]; simp) (fun j u hj => by
        have hj' : j < l.length := by
          rcases Nat.lt_or_ge j l.length with h' | h'
          · exact h'
          · rw [List.getElem?_eq_none (by simpa using h')] at hj; cases hj
        rw [Addr.add_lit, Nat.zero_add]
        obtain ⟨g', cap', rest', hv', _, _, _, hR, _⟩ := hown.row (by omega)
        rw [hv] at hv'
        simp only [Value.slice.injEq, Option.some.injEq, Addr.mk.injEq] at hv'
        obtain ⟨⟨rfl, _⟩, _⟩ := hv'
        have := hR.cell j hj'
        simp [hj'] at hj
        subst hj
        show wr.cell? _ = _
        rw [this]
        simp [List.getD_eq_getElem?_getD, hj'])
      refine grown (some ⟨g, 0, none⟩) l.length cap rfl (by omega) hv hr ?_
      rw [hz2]
      exact growslice_fits (by omega) (by omega)

end Go.Proofs.Ytfngcoijbnhheaa
