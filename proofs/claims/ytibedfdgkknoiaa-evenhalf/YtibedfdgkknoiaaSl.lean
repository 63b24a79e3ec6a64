/-
  Parts of bits, and bits appended, each as one step wherever it stands.
-/
import Derived.Test.YtibedfdgkknoiaaRw
import Derived.Test.YtibedfdgkknoiaaMix
import Derived.Test.YtibedfdgkknoiaaOpen
namespace Go.Proofs.Ytibedfdgkknoiaa
open Go.RowKit
set_option linter.unusedVariables false

/-- The first k bits of a word. -/
def Wd.front (x : Wd) (k : Nat) : Wd := ⟨x.a, x.c, x.l.take k⟩
/-- The bits of a word behind the first k. -/
def Wd.back (x : Wd) (k : Nat) : Wd := ⟨if x.c = k then x.a else x.a.map (·.add k), x.c - k, x.l.drop k⟩

theorem Bits.front {w : World} {x : Wd} (h : Bits w x) (k : Nat) : Bits w (x.front k) := by
  obtain ⟨h1, h2, h0, b, o, h3, h4⟩ := h
  have hlen : (x.l.take k).length ≤ x.l.length := by rw [List.length_take]; omega
  refine ⟨Nat.le_trans hlen h1, h2, h0, b, o, fun hl => h3 (Nat.lt_of_lt_of_le hl hlen), fun i hi => ?_⟩
  have hi' : i < (x.l.take k).length := hi
  rw [List.length_take] at hi'
  rw [h4 i (by omega)]
  show _ = Option.some (Value.bool ((x.l.take k).getD i false))
  simp [List.getD_eq_getElem?_getD, show i < k by omega]
theorem Bits.back {w : World} {x : Wd} (h : Bits w x) {k : Nat} (hk : k ≤ x.l.length) : Bits w (x.back k) := by
  obtain ⟨h1, h2, h0, b, o, h3, h4⟩ := h
  unfold Wd.back
  by_cases hc : x.c = k
  · rw [if_pos hc, List.drop_eq_nil_of_le (by omega)]
    exact ⟨Nat.zero_le _, Nat.le_trans (Nat.sub_le _ _) h2, fun _ => (by show x.c - k = 0; omega), 0, 0, by simp, by simp⟩
  · rw [if_neg hc]
    refine ⟨by simp; omega, by simp; omega, fun hn => ?_, b, o + k, fun hl => ?_, fun i hi => ?_⟩
    · cases ha : x.a with
      | none => have := h0 ha; simp only; omega
      | some p => simp [ha] at hn
    · simp only [List.length_drop] at hl
      have hp := h3 (by omega)
      simp only
      rw [hp]
      show Option.some (Addr.add _ _) = _
      rw [Addr.add_lit]
    · simp only [List.length_drop] at hi
      have := h4 (k + i) (by omega)
      rw [Nat.add_assoc, this]
      simp [List.getD_eq_getElem?_getD, List.getElem?_drop]

theorem sizeOf4 (w : World) : (sizeOf (Try.prog.elem 22)).run Try.prog w = .ok 1 w := by kernel_rfl
theorem elem22 : Try.prog.underlying 22 = some (.slice (Try.prog.elem 22)) := by kernel_rfl

theorem slice_front {w : World} {x : Wd} (h : Bits w x) {k : Nat} (hk : k ≤ x.l.length) (W : World) : (Instr.slice 22 x.v none (some (.int .i64 k)) none).run Try.prog W = .ok (x.front k).v W := by
  have h1 := h.1
  rw [Wd.v, run_slice_h W 22 x.a x.l.length x.c elem22 .i64 (k : Int) (by omega) (by omega), sizeOf4]
  show Result.ok (sliced _ _ _ _ _) W = _
  unfold sliced Wd.front Wd.v
  congr 1
  have e : (x.l.take k).length = k := by rw [List.length_take]; omega
  simp only [e, Int.toNat_natCast, Nat.sub_zero, Nat.zero_mul]
  congr 1
  by_cases hc : x.c = 0
  · rw [if_pos hc]
  · rw [if_neg hc]
    cases ha : x.a with
    | none => rfl
    | some p => simp [Addr.add]
theorem slice_back {w : World} {x : Wd} (h : Bits w x) {k : Nat} (hk : k ≤ x.l.length) (W : World) : (Instr.slice 22 x.v (some (.int .i64 k)) none none).run Try.prog W = .ok (x.back k).v W := by
  have h1 := h.1
  rw [Wd.v, run_slice_l W 22 x.a x.l.length x.c elem22 .i64 (k : Int) (by omega) (by omega), sizeOf4]
  show Result.ok (sliced _ _ _ _ _) W = _
  unfold sliced Wd.back Wd.v
  simp only [Int.toNat_natCast, Nat.mul_one, List.length_drop]

theorem exec_front {o : Oper} {ev : Operand → Value} {w : World} {x : Wd} (h : Bits w x) {k : Nat} (hk : k ≤ x.l.length) (xo ko : Operand) (ho : o.op = .slice 22 xo none (some ko) none) (hx : ev xo = x.v) (hi : ev ko = .int .i64 k) (W : World) :
    (execOp ev o).run Try.prog W = .ok (.value (x.front k).v) W := by
  unfold execOp
  simp only [ho, Sem.run_bind, Option.map, hx, hi, run_sliceAt_slice W 22 _ _ _ _ elem22, slice_front h hk, Result.andThen_ok, Sem.run_pure]
theorem exec_back {o : Oper} {ev : Operand → Value} {w : World} {x : Wd} (h : Bits w x) {k : Nat} (hk : k ≤ x.l.length) (xo ko : Operand) (ho : o.op = .slice 22 xo (some ko) none none) (hx : ev xo = x.v) (hi : ev ko = .int .i64 k) (W : World) :
    (execOp ev o).run Try.prog W = .ok (.value (x.back k).v) W := by
  unfold execOp
  simp only [ho, Sem.run_bind, Option.map, hx, hi, run_sliceAt_slice W 22 _ _ _ _ elem22, slice_back h hk, Result.andThen_ok, Sem.run_pure]

/-- Bits appended to a list of one's own: every other row stays as it was. -/
theorem run_appendBits (ty : TypeId) (w0 w : World) (v : Value) (l : List Bool) (hown : OwnB w0 w v l) (y : Wd) (hy : Bits w y) (hb : l.length + y.l.length ≤ 140737488355328) :
    ∃ v' w', (Builtin.append_ #[22, 22] ty #[v, y.v]).run Try.prog w = .ok v' w' ∧ OwnB w0 w' v' (l ++ y.l) ∧ (∀ B t r, Row w B t r → some B ≠ v.ownBlock → Row w' B t r) := by
  obtain ⟨i0, hi, hz0, hz1, hz2⟩ := info_parts info4
  obtain ⟨he, hown⟩ := hown
  obtain ⟨y1, y2, y0, b, off, y3, y4⟩ := hy
  obtain ⟨ya, yc, r⟩ := y
  simp only [Wd.v] at y0 y1 y2 y3 y4 hb ⊢
  cases ya with
  | none =>
    have hyc := y0 rfl
    have : r = [] := List.eq_nil_of_length_eq_zero (by omega)
    subst this
    subst hyc
    exact ⟨v, w, run_append_owned_none (P := Try.prog) (w := w) w0.heap.size 22 ty 4 i0 1 Try.underlying22 hi v l.length _ hown, by rw [List.append_nil]; exact ⟨he, hown⟩, fun B t r h _ => h⟩
  | some ad =>
  obtain ⟨v', w', h1, h2, h3, _⟩ := run_append_own (P := Try.prog) w w0.heap.size 22 ty 4 i0 (.bool false) 1 1 Try.underlying22 hi hz0 hz1 hz2 rfl (by decide) v l.length (l.map Value.bool) hown ad r.length yc (r.map Value.bool) (by simp)
    (by
      intro j u hj
      have hj' : j < r.length := by
        rcases Nat.lt_or_ge j r.length with h' | h'
        · exact h'
        · rw [List.getElem?_eq_none (by simpa using h')] at hj; cases hj
      have had := y3 (by omega)
      simp only [Option.some.injEq] at had
      subst had
      rw [Addr.add_lit, y4 j hj']
      simp [hj'] at hj
      simp [List.getD_eq_getElem?_getD, hj', hj])
    (by
      intro u hu
      obtain ⟨q, _, rfl⟩ := List.mem_map.1 hu
      rfl) (by unfold maxLen; omega) (by omega) he.size
  refine ⟨v', w', h1, ⟨?_, ?_⟩, ?_⟩
  · exact Below.grown he h3 he.size (fun k hk => (hown.lt k hk).1)
  · rw [List.length_append, List.map_append]
    exact h2
  · intro B t q hB hne
    show w'.heap[B]? = _
    rw [h3.block B hB.lt hne]
    exact hB

theorem exec_append {P : Program} (ρ : Operand → Value) (o : Oper) (s x : Operand) (t : TypeId) (ho : o.op = .call { callee := .builtin .append, args := #[s, x], argTypes := #[t, t] }) (v sv v' : Value) (W W' : World) (hs : ρ s = v) (hx : ρ x = sv)
    (hr : (Builtin.append_ #[t, t] o.type #[v, sv]).run P W = .ok v' W') : (execOp ρ o).run P W = .ok (.value v') W' := by
  unfold execOp
  simp only [ho, resolve, invoke, builtin, Sem.run_bind, Sem.run_pure, Result.andThen_ok, List.map_toArray, List.map_cons, List.map_nil, hs, hx, hr]


end Go.Proofs.Ytibedfdgkknoiaa
