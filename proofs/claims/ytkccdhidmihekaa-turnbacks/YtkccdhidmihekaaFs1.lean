/-
  A set of bytes as a map that the call makes; how many bytes are in a set or below one; a number put behind a list of one's own.
-/
import Derived.Test.YtkccdhidmihekaaFr2
import Derived.Test.YtkccdhidmihekaaOpen
import Derived.Maps.OwnSet
namespace Go.Proofs.Ytkccdhidmihekaa
open Go.RowKit Go.Maps

theorem u8_ends : IntKind.u8.min = 0 ∧ IntKind.u8.max = 255 := by decide
theorem byt_wf {x : Int} (h : x ∈ a256) : (Lit.int .u8 x).wf = true := by
  have := mem_a256.1 h
  simp only [Lit.wf, u8_ends, Bool.and_eq_true, decide_eq_true_eq]
  omega
theorem byt_in {l : List Int} (h : Byt l) : InB l := fun x hx => by
  have := h x hx
  simp only [Lit.wf, u8_ends, Bool.and_eq_true, decide_eq_true_eq] at this
  exact mem_a256.2 (by omega)

/-- How many bytes are in S or below x. -/
def cn (S : List Int) (x : Int) : Nat := a256.countP (fun c => decide (c ∈ S) || decide (c < x))

theorem countP_or {L : List Int} {p : Int → Bool} {y : Int} (hn : L.Nodup) (hy : y ∈ L) : L.countP (fun c => p c || decide (c = y)) = L.countP p + (if p y then 0 else 1) := by
  induction L with
  | nil => simp at hy
  | cons a L ih =>
    rw [List.nodup_cons] at hn
    rw [List.countP_cons, List.countP_cons]
    by_cases ha : a = y
    · subst ha
      have e : L.countP (fun c => p c || decide (c = a)) = L.countP p := by
        apply List.countP_congr
        intro c hc
        have : c ≠ a := fun e => hn.1 (e ▸ hc)
        simp [this]
      rw [e]
      cases p a <;> simp
    · have hy' : y ∈ L := by
        rcases List.mem_cons.1 hy with h | h
        · exact absurd h.symm ha
        · exact h
      rw [ih hn.2 hy']
      simp only [ha, decide_false, Bool.or_false]
      omega

theorem cn_nil : cn [] 0 = 0 := by
  unfold cn
  rw [List.countP_eq_zero]
  intro c hc
  have := mem_a256.1 hc
  simp
  omega
theorem cn_put {S : List Int} {y : Int} (hy : y ∈ a256) : cn (S ++ [y]) 0 = cn S 0 + (if y ∈ S then 0 else 1) := by
  have h1 := countP_or (p := fun c => decide (c ∈ S) || decide (c < 0)) a256_nodup hy
  have h0 := mem_a256.1 hy
  have e : cn (S ++ [y]) 0 = a256.countP (fun c => (decide (c ∈ S) || decide (c < 0)) || decide (c = y)) := by
    unfold cn
    apply List.countP_congr
    intro c hc
    by_cases h1 : c ∈ S <;> by_cases h2 : c = y <;> by_cases h3 : c < 0 <;> simp [h1, h2, h3]
  rw [e, h1]
  unfold cn
  congr 1
  by_cases hs : y ∈ S
  · simp [hs]
  · simp [hs]
    omega
theorem cn_step {S : List Int} {x : Int} (hx : x ∈ a256) : cn S (x + 1) = cn S x + (if x ∈ S then 0 else 1) := by
  have h1 := countP_or (p := fun c => decide (c ∈ S) || decide (c < x)) a256_nodup hx
  have e : cn S (x + 1) = a256.countP (fun c => (decide (c ∈ S) || decide (c < x)) || decide (c = x)) := by
    unfold cn
    apply List.countP_congr
    intro c hc
    have : c < x + 1 ↔ c < x ∨ c = x := by omega
    simp only [this]
    by_cases h1 : c ∈ S <;> by_cases h2 : c = x <;> by_cases h3 : c < x <;> simp [h1, h2, h3]
  rw [e, h1]
  unfold cn
  congr 1
  by_cases hs : x ∈ S <;> simp [hs]
theorem cn_le (S : List Int) (x : Int) : cn S x ≤ 256 := by
  have := List.countP_le_length (p := fun c => decide (c ∈ S) || decide (c < x)) (l := a256)
  rw [a256_length] at this
  exact this

/-- The place of a byte, as the document's answer reckons it. -/
theorem cn_place {T : List Int} {q : Nat} {b : Int} (hT : InB T) (hb : b ∈ a256) (hno : b ∉ T.drop q) (hq : q = 0 ∨ (q ≤ T.length ∧ T.getD (q - 1) 0 = b)) :
    cn (T.drop q) (if q = 0 then b else 0) = (ls T.reverse).idxOf b := by
  rw [← ls_count (fun x hx => hT x (by simpa using hx)) hb]
  unfold cn
  apply List.countP_congr
  intro c hc
  rw [ahd_seg hno hq]
  have := mem_a256.1 hc
  by_cases h0 : q = 0
  · simp [h0]
  · simp [h0]
    omega

theorem law5 : Keyed Try.prog 5 := int_keyed Try.underlying5
theorem zero4 (w : World) : (zeroValue 4).run Try.prog w = .ok (.bool false) w := by kernel_rfl
theorem under50 : Try.prog.underlying 50 = some (.map 5 4) := by kernel_rfl

theorem plainElem_bool_inv {v : Value} {z : DataW Unit × List MemPlace} (h : plainElem Try.prog 4 v = some z) : ∃ c, v = .bool c ∧ z = (.lit (.bool c), []) := by
  unfold plainElem at h
  rw [Try.underlying4] at h
  cases v <;> simp at h
  exact ⟨_, rfl, h.symm⟩

/-- The block is a map of which just the bytes of S are told true. -/
def SetM (w : World) (B n : Nat) (S : List Int) : Prop :=
  ∃ D : DataW Unit, w.ownsMap Try.prog 5 (plainElem Try.prog 4) B n D ∧ ∀ x ∈ a256, D.atKey (.int .u8 x) (.lit (.bool false)) = .lit (.bool (decide (x ∈ S)))

theorem SetM.made (w : World) : SetM (w.alloc (.map #[] 0)) w.heap.size 0 [] :=
  ⟨.map [], World.ownsMap_made _ _ _ _, fun x _ => by simp [DataW.atKey]⟩

theorem SetM.ext {w w' : World} {B n : Nat} {S : List Int} (h : SetM w B n S) (e : Ext w w') : SetM w' B n S := by
  obtain ⟨D, ⟨es, cl, hb, r⟩, h2⟩ := h
  exact ⟨D, ⟨es, cl, by rw [e.block B (lt_of_block hb)]; exact hb, r⟩, h2⟩

theorem SetM.look {w : World} {B n : Nat} {S : List Int} (h : SetM w B n S) {x : Int} (hx : x ∈ a256) :
    (Instr.lookup 50 (.map (some B)) (.int .u8 x) false).run Try.prog w = .ok (.bool (decide (x ∈ S))) w := by
  obtain ⟨D, h1, h2⟩ := h
  obtain ⟨v, ps, hrun, hv⟩ := h1.lookup law5 under50 (zero4 w) (plainElem_bool Try.underlying4 false) (keyOf_int_mk Try.underlying5 (byt_wf hx))
  obtain ⟨c, rfl, hc⟩ := plainElem_bool_inv hv
  simp only [Prod.mk.injEq] at hc
  rw [h2 x hx] at hc
  have : decide (x ∈ S) = c := by
    have := hc.1
    injection this with this
    injection this
  rw [this]
  exact hrun

/-- A map's block is no row's. -/
theorem row_map {w : World} {b0 sz n0 n b : Nat} {e k : TypeId} {v : Value} {xs : List Value} {R : Value → Option (DataW Unit × List MemPlace)} {D : DataW Unit} (h : w.ownsRow b0 e sz v n0 xs) (hm : w.ownsMap Try.prog k R b n D) : v.ownBlock ≠ some b := by
  obtain ⟨es, cl, hb, _⟩ := hm
  rcases h.2 with ⟨rfl, _⟩ | ⟨g, cap, cur, rfl, _, hh, _⟩
  · simp [Value.ownBlock]
  · simp only [Value.ownBlock, ne_eq, Option.some.injEq]
    intro e
    rw [e, hb] at hh
    cases hh

theorem wpList_putSet {ops : Array Oper} {rest : List Oper} {o : Oper} {a : Act} {Q : Exit → Act → World → Prop} (hg : o.guard = none) (m x v : Operand) (hop : o.op = Op.mapUpdate 50 m x v)
    (w0 w : World) (B n : Nat) (S : List Int) (hm : a.eval m = .map (some B)) (hS : SetM w B n S) (hn : n < 1000) (y : Int) (hy : y ∈ a256) (hx : a.eval x = .int .u8 y) (hv : a.eval v = .bool true)
    (u : Value) (z : List Int) (hu : OwnN w0 w u z) (hB : w0.heap.size ≤ B)
    (hK : ∀ w', SetM w' B (n + 1) (S ++ [y]) → OwnN w0 w' u z → wpList Try.prog ops Q rest (a.put o.dst undef) w') : wpList Try.prog ops Q (o :: rest) a w := by
  obtain ⟨D, h1, h2⟩ := hS
  refine wpList_mapUpdate_own w hg m x v 50 hop 5 4 law5 under50 _ B n D hm h1 (by unfold maxLen; omega) _ _ _ hx hv (keyOf_int_mk Try.underlying5 (byt_wf hy)) _ [] (plainElem_bool Try.underlying4 true) ?_
  intro w' h3 h4
  refine hK w' ⟨_, h3, fun c hc => ?_⟩ ⟨?_, ?_⟩
  · by_cases he : c = y
    · subst he
      rw [atKey_put_same h1.isMap (law5.key (keyOf_int_mk Try.underlying5 (byt_wf hc)))]
      simp
    · rw [atKey_put_other (by intro e; injection e with _ e; exact he e), h2 c hc]
      simp [he]
  · exact Below.grown hu.1 h4 hu.1.size (fun k hk => by injection hk with hk; omega)
  · exact World.ownsRow.kept hu.2 h4 (Or.inr (row_map hu.2 h1))

theorem wpList_appendNum {ops : Array Oper} {rest : List Oper} {o : Oper} {a : Act} {Q : Exit → Act → World → Prop} (hgd : o.guard = none) (s x : Operand)
    (ho : o.op = .call { callee := .builtin .append, args := #[s, x], argTypes := #[35, 35] }) (w0 wr : World) (v : Value) (hs : a.eval s = v) (z : List Int) (hown : OwnN w0 wr v z)
    (q : Int) (hx : a.eval x = .slice (some ⟨wr.heap.size, 0, none⟩) 1 1) (hb : (z.length + 1) * 8 ≤ 140737488355328)
    (h : ∀ v' w', OwnN w0 w' v' (z ++ [q]) → wpList Try.prog ops Q rest (a.put o.dst v') w') : wpList Try.prog ops Q (o :: rest) a (wr.alloc (.cells #[.int .i64 q] 3)) := by
  obtain ⟨i0, hi, hz0, hz1, hz2⟩ := info_parts info3
  obtain ⟨he, hown⟩ := hown
  refine wpList_append_own _ hgd s x 35 ho w0.heap.size 3 i0 (.int .i64 0) 1 8 Try.underlying35 hi hz0 hz1 hz2 rfl (by decide) v z.length (z.map (Value.int .i64)) hs (hown.alloc _) ⟨wr.heap.size, 0, none⟩ 1 1 [.int .i64 q] hx rfl ?_ ?_ ?_ hb ?_ ?_
  · exact cell_one_new _ _ _
  · intro u hu; simp at hu; subst hu; rfl
  · unfold maxLen; omega
  · have := he.size; simp; omega
  · intro v' w' hown' hgr _
    refine h v' w' ⟨?_, ?_⟩
    · have e1 : Ext w0 (wr.alloc (.cells #[.int .i64 q] 3)) := he.alloc _
      exact Below.grown e1 hgr e1.size (fun k hk => (hown.lt k hk).1)
    · simpa using hown'

end Go.Proofs.Ytkccdhidmihekaa
