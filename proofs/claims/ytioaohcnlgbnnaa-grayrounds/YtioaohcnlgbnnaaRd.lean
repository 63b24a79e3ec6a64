/-
  gray.Round: a list with room enough, and a set of the numbers that came.
-/
import Derived.Test.YtioaohcnlgbnnaaRp
import Derived.Test.YtioaohcnlgbnnaaRw
import Derived.Test.YtioaohcnlgbnnaaOw
import Derived.Maps.OwnSet
import Derived.Maps.OwnOps
import Derived.Laws.OwnMore
namespace Go.Proofs.Ytioaohcnlgbnnaa
open Go.RowKit Go.Maps
set_option linter.unusedVariables false

/-- One bit into a list that has room for it. -/
theorem wpList_appendRoom {ops : Array Oper} {rest' : List Oper} {o : Oper} {a : Act} {Q : Exit → Act → World → Prop} (hgd : o.guard = none) (s x : Operand)
    (ho : o.op = .call { callee := .builtin .append, args := #[s, x], argTypes := #[31, 31] }) (wr : World) (A n M : Nat) (l : List Bool) (rest : List Value) (hn : l.length = n) (hs : a.eval s = .slice (some ⟨A, 0, none⟩) n M)
    (hr : RB wr A l rest) (hm : n + rest.length = M) (h0 : 0 < rest.length)
    (q : Bool) (hx : a.eval x = .slice (some ⟨wr.heap.size, 0, none⟩) 1 1)
    (h : ∀ w', RB w' A (l ++ [q]) rest.tail → (∀ B, B < wr.heap.size → B ≠ A → w'.heap[B]? = wr.heap[B]?) → (∀ w0, Ext w0 wr → w0.heap.size ≤ A → Ext w0 w') → wr.heap.size ≤ w'.heap.size → wpList Try.prog ops Q rest' (a.put o.dst (.slice (some ⟨A, 0, none⟩) (n + 1) M)) w') :
    wpList Try.prog ops Q (o :: rest') a (wr.alloc (.cells #[.bool q] 4)) := by
  obtain ⟨i0, hi, hz0, hz1, hz2⟩ := info_parts info4
  have hA : A < wr.heap.size := hr.lt
  have hr' : Row (wr.alloc (.cells #[.bool q] 4)) A 4 (bv l ++ rest) := hr.ext ((Ext.refl wr).alloc _)
  have hr2 := run_append_room (P := Try.prog) (wr.alloc (.cells #[.bool q] 4)) 31 o.type 4 i0 Try.underlying31 hi A n M _ hr' ⟨wr.heap.size, 0, none⟩ 1 1 [.bool q] (by rw [hz1]; rfl) (cell_one_new _ _ _) (by intro u hu; simp at hu; subst hu; rfl) (by omega) (by rw [hz1]; simp; omega)
  refine wpList_plain hgd fun _ hK => ?_
  unfold Oper.wp execOp
  simp only [ho, resolve, invoke, builtin, Sem.run_bind, Sem.run_pure, Result.andThen_ok, List.map_toArray, List.map_cons, List.map_nil, hs, hx, hr2]
  have e : (bv l ++ rest).take (n * i0.size) ++ [Value.bool q] ++ (bv l ++ rest).drop (n * i0.size + [Value.bool q].length) = bv (l ++ [q]) ++ rest.tail := by
    rw [hz1, Nat.mul_one]
    have hb : (bv l).length = n := by rw [List.length_map, hn]
    rw [List.take_append_of_le_length (by omega), List.take_of_length_le (by omega), List.drop_append, List.drop_of_length_le (by simp; omega), List.nil_append, hb]
    simp [bv]
  refine hK _ _ (h _ ?_ (fun B hB hne => ?_) (fun w0 h0 hA0 => ?_) ?_)
  · have := setRow_heap (wr.alloc (.cells #[.bool q] 4)) A _ ((bv l ++ rest).take (n * i0.size) ++ [Value.bool q] ++ (bv l ++ rest).drop (n * i0.size + [Value.bool q].length)).toArray _ _ hr'
    rw [e] at this
    show _ = _
    rw [e]
    exact this
  · rw [setRow_other _ _ _ _ hne]
    exact Below.heap_alloc _ _ _ hB
  · exact Below.trans (h0.alloc _) ⟨rfl, rfl, rfl, by simp [World.setRow], fun j hj => setRow_other _ _ j _ (by omega)⟩
  · simp [World.setRow]
theorem law3 : Keyed Try.prog 3 := int_keyed Try.underlying3
theorem zero41 (w : World) : (zeroValue 41).run Try.prog w = .ok (.agg #[]) w := by kernel_rfl
theorem under40 : Try.prog.underlying 40 = some (.map 3 41) := by kernel_rfl
theorem i64_wf {x : Nat} (h : x < 9223372036854775808) : (Lit.int .i64 (x : Int)).wf = true := by
  simp only [Lit.wf, show IntKind.i64.min = -9223372036854775808 ∧ IntKind.i64.max = 9223372036854775807 by decide, Bool.and_eq_true, decide_eq_true_eq]
  omega

/-- The block is a set of numbers: those of a list, at most k. -/
def SM (w : World) (B k : Nat) (g : List Nat) : Prop :=
  ∃ (n : Nat) (D : DataW Unit), n ≤ k ∧ w.ownsMap Try.prog 3 unitElem B n D ∧ ∀ m : Nat, Maps.has D (.int .i64 (m : Int)) = g.contains m
theorem SM.made (w : World) : SM (w.alloc (.map #[] 0)) w.heap.size 0 [] :=
  ⟨0, .map [], Nat.le_refl _, World.ownsMap_made _ _ _ _, fun m => by simp [Maps.has]⟩
theorem SM.lt {w : World} {B k : Nat} {g : List Nat} (h : SM w B k g) : B < w.heap.size := by
  obtain ⟨n, D, hn, ho, _⟩ := h
  exact ho.lt
theorem SM.same {w w' : World} {B k : Nat} {g : List Nat} (h : SM w B k g) (e : w'.heap[B]? = w.heap[B]?) : SM w' B k g := by
  obtain ⟨n, D, hn, ⟨es, cl, hb, r⟩, h2⟩ := h
  exact ⟨n, D, hn, ⟨es, cl, by rw [e]; exact hb, r⟩, h2⟩
theorem SM.mono {w : World} {B k k' : Nat} {g : List Nat} (h : SM w B k g) (e : k ≤ k') : SM w B k' g := by
  obtain ⟨n, D, hn, h2⟩ := h
  exact ⟨n, D, by omega, h2⟩

theorem wpList_lookSet {ops : Array Oper} {rest : List Oper} {o : Oper} {a : Act} {Q : Exit → Act → World → Prop} (hg : o.guard = none) (m x : Operand) (hop : o.op = Op.lookup 40 m x true)
    (w : World) (B k : Nat) (g : List Nat) (hm : a.eval m = .map (some B)) (hL : SM w B k g) (q : Nat) (hq : q < 9223372036854775808) (hx : a.eval x = .int .i64 (q : Int)) (b : Bool) (hb : g.contains q = b)
    (hK : wpList Try.prog ops Q rest (a.put o.dst (.tuple #[.agg #[], .bool b])) w) : wpList Try.prog ops Q (o :: rest) a w := by
  obtain ⟨n, D, hn, ho, h2⟩ := hL
  refine wpList_lookup_own_unit w hg m x 40 hop 3 41 law3 under40 (zero41 _) B n D hm ho _ _ hx (keyOf_int_mk Try.underlying3 (i64_wf hq)) ?_
  rw [h2 q, hb]
  exact hK

theorem wpList_putSet {ops : Array Oper} {rest : List Oper} {o : Oper} {a : Act} {Q : Exit → Act → World → Prop} (hg : o.guard = none) (m x v : Operand) (hop : o.op = Op.mapUpdate 40 m x v)
    (w : World) (B k : Nat) (g : List Nat) (hm : a.eval m = .map (some B)) (hL : SM w B k g) (hk : k < 1000000000) (q : Nat) (hq : q < 9223372036854775808) (hx : a.eval x = .int .i64 (q : Int)) (hv : a.eval v = .agg #[])
    (hK : ∀ w', SM w' B (k + 1) (q :: g) → (∀ A, A < w.heap.size → A ≠ B → w'.heap[A]? = w.heap[A]?) → (∀ w0, Ext w0 w → w0.heap.size ≤ B → Ext w0 w') → w.heap.size ≤ w'.heap.size → wpList Try.prog ops Q rest (a.put o.dst undef) w') : wpList Try.prog ops Q (o :: rest) a w := by
  obtain ⟨n, D, hn, ho, h2⟩ := hL
  refine wpList_mapUpdate_own w hg m x v 40 hop 3 41 law3 under40 _ B n D hm ho (by unfold maxLen; omega) _ _ _ hx hv (keyOf_int_mk Try.underlying3 (i64_wf hq)) _ [] unitElem_mk ?_
  intro w' h3 h4
  refine hK w' ⟨n + 1, _, by omega, h3, fun c => ?_⟩ (fun A hA hne => h4.block A hA (by simpa using hne)) (fun w0 h0 hB => Below.grown h0 h4 h0.size (fun k hk => by injection hk with hk; omega)) h4.size
  by_cases hc : c = q
  · subst hc
    rw [has_put_same ho.isMap (law3.key (keyOf_int_mk Try.underlying3 (i64_wf hq)))]
    simp
  · have hne : (Lit.int .i64 (c : Int)) ≠ .int .i64 (q : Int) := by
      intro e
      injection e with _ e
      exact hc (by omega)
    rw [has_put_other hne, h2 c, List.contains_cons]
    simp [hc]

/-- Bits with room behind them. -/
theorem made_room (n M : Nat) (h : n ≤ M) (hM : M ≤ 1000000) (w : World) : ∃ W, (Instr.makeSlice 31 (.int .i64 n) (.int .i64 (M : Nat))).run Try.prog w = .ok (.slice (some ⟨w.heap.size, 0, none⟩) n M) W ∧
    RB W w.heap.size (List.replicate n false) (List.replicate (M - n) (.bool false)) ∧ Ext w W := by
  obtain ⟨i0, hi, hz0, hz1, hz2⟩ := info_parts info4
  have hr := run_makeSlice (P := Try.prog) (w := w) 31 4 i0 (.bool false) Try.underlying31 hi hz0 .i64 .i64 (n : Int) (M : Int) (by omega) (by omega) (by rw [hz1, Int.toNat_natCast]; omega) (by rw [hz2]; omega) (by omega)
  rw [Int.toNat_natCast, Int.toNat_natCast, hz1, Nat.mul_one] at hr
  refine ⟨_, hr, ?_, (Ext.refl w).alloc _⟩
  have := Row.made w 4 (.bool false) M
  have e : bv (List.replicate n false) ++ List.replicate (M - n) (Value.bool false) = List.replicate M (.bool false) := by
    unfold bv
    rw [List.map_replicate, List.replicate_append_replicate]
    congr 1
    omega
  unfold RB
  rw [e]
  exact this

theorem Round_out (n : Int) (h : ¬ (1 ≤ n ∧ n ≤ 6)) (w : World) : Calls Try.prog 12 #[.int .i64 n] w fun e w' => e = .returned (.tuple #[.slice none 0 0, .int .i64 4]) ∧ w' = w := by
  rcases Int.lt_or_le n 1 with h0 | h0
  · go_enter Try.func12, Try.ntmps12
    go_wp2
    go_ret2
    exact ⟨rfl, rfl⟩
  · have h1 : 6 < n := by omega
    go_enter Try.func12, Try.ntmps12
    go_wp2
    go_ret2
    exact ⟨rfl, rfl⟩

set_option maxHeartbeats 2000000 in
/-- gray.Round. -/
theorem Round_any (n : Nat) (hn1 : 1 ≤ n) (hn6 : n ≤ 6) (w : World) : Calls Try.prog 12 #[.int .i64 n] w fun e w' => ∃ A, e = .returned (.tuple #[.slice (some ⟨A, 0, none⟩) (2 ^ n) (2 ^ n), .int .i64 0]) ∧ RB w' A (rl n) [] ∧ w.heap.size ≤ A ∧ Ext w w' := by
  obtain ⟨S, hS⟩ : ∃ S : Nat → Nat × List Nat × List Bool, ∀ k, S k = rs n k := ⟨_, fun _ => rfl⟩
  have hnM : n < 2 ^ n := Nat.lt_two_pow_self
  have hM64 : 2 ^ n ≤ 2 ^ 6 := Nat.pow_le_pow_right (by omega) hn6
  have LN : Hid (∀ k, (S k).2.2.length = n + k) := fun k => by rw [hS]; exact rs_len n k
  have YES : Hid (∀ k, (S k).2.1.contains (2 * (S k).1 % 2 ^ n + 1) = true → S (k + 1) = (2 * (S k).1 % 2 ^ n, (S k).2.1, (S k).2.2 ++ [false])) := fun k h => by rw [hS] at *; rw [hS]; exact rs_yes h
  have NO : Hid (∀ k, (S k).2.1.contains (2 * (S k).1 % 2 ^ n + 1) = false → S (k + 1) = (2 * (S k).1 % 2 ^ n + 1, (2 * (S k).1 % 2 ^ n + 1) :: (S k).2.1, (S k).2.2 ++ [true])) := fun k h => by rw [hS] at *; rw [hS]; exact rs_no h
  have LOW : Hid (∀ k, (S k).1 ≤ 2 ^ n) := fun k => by rw [hS]; exact rs_low k
  have S0 : Hid (S 0 = (0, [], List.replicate n false)) := hS 0
  have FI : Hid ((S (2 ^ n - n)).2.2 = rl n) := by show _ = _; rw [hS]; rfl
  have pw : wrap64 (2 ^ n) = ((2 ^ n : Nat) : Int) := by
    rw [show (2 : Int) ^ n = ((2 ^ n : Nat) : Int) by simp]
    unfold wrap64; omega
  have hz1 : ¬ (n : Int) < 1 := by omega
  have hz6 : ¬ (6 : Int) < (n : Int) := by omega
  obtain ⟨W1, mk, R1, E1⟩ := made_room n (2 ^ n) (by omega) (by omega) w
  generalize rl n = R at *
  generalize 2 ^ n = M at *
  clear hS
  have R1' : Hid (RB W1 w.heap.size (List.replicate n false) (List.replicate (M - n) (.bool false))) := R1
  have E1' : Hid (Ext w W1) := E1
  have hAW : w.heap.size < W1.heap.size := R1.lt
  clear R1 E1
  generalize hA : w.heap.size = A at *
  have hA' : Hid (w.heap.size = A) := hA
  have hmm := @run_makeMap Try.prog
  have Q0 : Hid (SM (W1.alloc (.map #[] 0)) W1.heap.size 0 []) := SM.made W1
  have R0 : Hid (RB (W1.alloc (.map #[] 0)) A (List.replicate n false) (List.replicate (M - n) (.bool false))) := Row.ext R1'.out ((Ext.refl W1).alloc _)
  have X0 : Hid (Ext w (W1.alloc (.map #[] 0))) := E1'.out.alloc _
  clear hA R1' E1'
  go_enter Try.func12, Try.ntmps12
  go_wp2
  have hBA : Hid (A < W1.heap.size) := hAW
  generalize W1.heap.size = B at *
  generalize W1.alloc (.map #[] 0) = W2 at *
  clear hmm mk W1
  go_loopg [5, 6] M (fun gg s5 s6 wr => ∃ (k : Nat) (rest : List Value), n + k ≤ M ∧ M - (n + k) ≤ gg ∧ s5 = .slice (some ⟨A, 0, none⟩) (n + k) M ∧ s6 = .int .i64 ((S k).1 : Nat) ∧ n + k + rest.length = M ∧ Aside (RB wr A (S k).2.2 rest) ∧ Aside (SM wr B k (S k).2.1) ∧ Aside (Ext w wr))
  case atStart => exact ⟨0, List.replicate (M - n) (.bool false), by omega, by omega, by go_num, by rw [S0.out]; rfl, by rw [List.length_replicate]; omega, by show RB _ _ _ _; rw [S0.out]; exact R0.out, by show SM _ _ _ _; rw [S0.out]; exact Q0.out, X0.out⟩
  case round =>
    obtain ⟨k, rest, hk, hgg, rfl, rfl, hrl, RX, Q, X⟩ := hrel
    by_cases hlt : n + k < M
    · have hltz : ((n : Int) + (k : Int)) < (M : Int) := by omega
      have low := LOW.out k
      have yes := YES.out k
      have no := NO.out k
      have ln := LN.out k
      have hD : 2 * (S k).1 % M < M := Nat.mod_lt _ (by omega)
      have rm : Int.tmod (2 * ((S k).1 : Int)) (M : Int) = (2 * (S k).1 % M : Nat) := by
        rw [show (2 : Int) * ((S k).1 : Int) = ((2 * (S k).1 : Nat) : Int) by omega, ← Int.ofNat_tmod]
      have rm2 : Int.tmod (((S k).1 : Int) * 2) (M : Int) = (2 * (S k).1 % M : Nat) := by rw [← rm, Int.mul_comm]
      have RR : Hid (RB wr A (S k).2.2 rest) := RX.out
      have QQ : Hid (SM wr B k (S k).2.1) := Q.out
      have XX : Hid (Ext w wr) := X.out
      clear RX Q X R0 Q0 X0 S0 LN YES NO LOW FI
      generalize 2 * (S k).1 % M = D at *
      generalize hS' : S (k + 1) = S' at *
      generalize (S k).1 = E at *
      generalize (S k).2.1 = G at *
      generalize (S k).2.2 = L at *
      cases hc : G.contains (D + 1)
      · have nx : Hid (S' = (D + 1, (D + 1) :: G, L ++ [true])) := no hc
        clear yes no
        have hc' : Hid (G.contains (D + 1) = false) := hc
        clear hc
        have QA : Hid (SM (wr.alloc (.cells #[] 41)) B k G) := QQ.out.same (Below.heap_alloc _ _ _ QQ.out.lt)
        have RA : Hid (RB (wr.alloc (.cells #[] 41)) A L rest) := Row.ext RR.out ((Ext.refl wr).alloc _)
        have XA : Hid (Ext w (wr.alloc (.cells #[] 41))) := XX.out.alloc _
        go_wp2_with (first | (at_lookup; refine wpList_lookSet rfl _ _ rfl _ B k G rfl QQ.out (D + 1) (by omega) (by rfl) false hc'.out ?_) | (at_mapUpdate; refine wpList_putSet rfl _ _ _ rfl _ B k G rfl QA.out (by omega) (D + 1) (by omega) (by rfl) (by rfl) ?_; intro w3 Q3 H3 X3 Z3; have Q3' : Hid (SM w3 B (k + 1) ((D + 1) :: G)) := Q3; have R3' : Hid (RB w3 A L rest) := (H3 A RA.out.lt (Nat.ne_of_lt hBA.out)).trans RA.out; have X3' : Hid (Ext w w3) := X3 w XA.out (by have h1 := hA'.out; have h2 := hBA.out; omega); clear Q3 H3 X3 Z3) | (at_builtin; (refine wpList_appendRoom rfl _ _ rfl w3 A (n + k) M L rest ln (by rfl) R3'.out hrl (by omega) true (by rfl) ?_; intro w4 R4 H4 X4 Z4; have Q4' : Hid (SM w4 B (k + 1) ((D + 1) :: G)) := Q3'.out.same (H4 B Q3'.out.lt (Nat.ne_of_gt hBA.out)); have R4' : Hid (RB w4 A (L ++ [true]) rest.tail) := R4; have X4' : Hid (Ext w w4) := X4 w X3'.out (by have h1 := hA'.out; omega); clear R4 H4 X4 Z4)))
        go_roundg (M - (n + (k + 1)))
        case measure => omega
        case rel =>
          refine ⟨k + 1, rest.tail, by omega, by omega, by go_num, ?_, by rw [List.length_tail]; omega, ?_, ?_, X4'.out⟩
          · rw [hS', nx.out]; go_num
          · show RB _ _ _ _; rw [hS', nx.out]; exact R4'.out
          · show SM _ _ _ _; rw [hS', nx.out]; exact Q4'.out
      · have nx : Hid (S' = (D, G, L ++ [false])) := yes hc
        clear yes no
        have hc' : Hid (G.contains (D + 1) = true) := hc
        clear hc
        have QA : Hid (SM (wr.alloc (.cells #[] 41)) B k G) := QQ.out.same (Below.heap_alloc _ _ _ QQ.out.lt)
        have RA : Hid (RB (wr.alloc (.cells #[] 41)) A L rest) := Row.ext RR.out ((Ext.refl wr).alloc _)
        have XA : Hid (Ext w (wr.alloc (.cells #[] 41))) := XX.out.alloc _
        go_wp2_with (first | (at_lookup; refine wpList_lookSet rfl _ _ rfl _ B k G rfl QQ.out (D + 1) (by omega) (by rfl) true hc'.out ?_) | (at_builtin; (refine wpList_appendRoom rfl _ _ rfl (wr.alloc (.cells #[] 41)) A (n + k) M L rest ln (by rfl) RA.out hrl (by omega) false (by rw [World.size_alloc]; rfl) ?_; intro w4 R4 H4 X4 Z4; have Q4' : Hid (SM w4 B (k + 1) G) := (QA.out.same (H4 B QA.out.lt (Nat.ne_of_gt hBA.out))).mono (by omega); have R4' : Hid (RB w4 A (L ++ [false]) rest.tail) := R4; have X4' : Hid (Ext w w4) := X4 w XA.out (by have h1 := hA'.out; omega); clear R4 H4 X4 Z4)))
        go_roundg (M - (n + (k + 1)))
        case measure => omega
        case rel =>
          refine ⟨k + 1, rest.tail, by omega, by omega, by go_num, ?_, by rw [List.length_tail]; omega, ?_, ?_, X4'.out⟩
          · rw [hS', nx.out]
          · show RB _ _ _ _; rw [hS', nx.out]; exact R4'.out
          · show SM _ _ _ _; rw [hS', nx.out]; exact Q4'.out
    · have hkM : M - n = k := by omega
      have hr0 : rest = [] := List.eq_nil_of_length_eq_zero (by omega)
      subst hr0
      rw [hkM] at FI
      have RR : Hid (RB wr A R []) := by
        have := RX.out
        rw [FI.out] at this
        exact this
      have XX : Hid (Ext w wr) := X.out
      have hnk : n + k = M := by omega
      rw [hnk]
      clear R0 Q0 X0 S0 LN YES NO LOW FI
      go_wp2
      go_ret2
      exact ⟨A, rfl, RR.out, Nat.le_refl _, XX.out⟩

end Go.Proofs.Ytioaohcnlgbnnaa
