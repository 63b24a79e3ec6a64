/-
  The program's number of a tail; the copy of a list of numbers with one number more.
-/
import Derived.Test.YtlhkifbjbibfoaaWays
namespace Go.Proofs.Ytlhkifbjbibfoaa
open Go.RowKit

theorem num_take (l : List Bool) (k : Nat) (h : k < l.length) : num (l.take (k + 1)) = 2 * num (l.take k) + l[k].toNat := by
  rw [List.take_succ_eq_append_getElem h, num_snoc]

set_option maxHeartbeats 1000000 in
theorem number_any (x : Wd) (w : World) (hx : Bits w x) (h8 : x.l.length ≤ 8) :
    Calls Try.prog 24 #[x.v] w fun e w' => e = .returned (.int .i64 (num x.l : Int)) ∧ w' = w := by
  obtain ⟨h1, h2, _, b, o, h4, h5⟩ := hx
  obtain ⟨a, c, l⟩ := x
  simp only [Wd.v] at *
  obtain ⟨n, hn⟩ : ∃ n, l.length = n := ⟨_, rfl⟩
  have HN : Hid (l.length = n) := hn
  have H5 : Hid (∀ i, i < l.length → w.cell? ⟨b, o + i, none⟩ = some (.bool (l.getD i false))) := h5
  unfold maxLen at h2
  rw [hn] at h1 h4 h8 ⊢
  clear hn h5
  go_enter Try.func24, Try.ntmps24
  go_wp2
  go_loopg [3, 5, 8] n (fun gg v _ s wr => wr = w ∧ ∃ k : Nat, k ≤ n ∧ n - k ≤ gg ∧ s = .int .i64 k ∧ ∃ m : Nat, v = .int .i64 (m : Int) ∧ Aside (m = num (l.take k)))
  case atStart => exact ⟨rfl, 0, Nat.zero_le _, by omega, rfl, 1, rfl, rfl⟩
  case round =>
    obtain ⟨rfl, k, hk, hgg, rfl, m, rfl, A⟩ := hrel
    by_cases hlt : k < n
    · have hltz : (k : Int) < (n : Int) := by omega
      obtain rfl := h4 (by omega)
      have hkl : k < l.length := by rw [HN.out]; exact hlt
      have e1 := H5.out k hkl
      have nx : Hid (num (l.take (k + 1)) = 2 * m + l[k].toNat) := by
        show _ = _
        rw [A.out]
        exact num_take l k hkl
      have hm : m < 512 := by
        rw [A.out]
        exact num_lt (n := 8) (by rw [List.length_take]; omega)
      have hb : l.getD k false = l[k] := by simp [List.getD_eq_getElem?_getD, hkl]
      rw [hb] at e1
      generalize l[k] = q at e1 nx
      clear h4 A hb
      cases q
      · go_wp2
        go_roundg (n - (k + 1))
        case measure => omega
        case rel => exact ⟨rfl, k + 1, by omega, by omega, by go_num, 2 * m, by go_num, by show _ = _; rw [nx.out]; rfl⟩
      · go_wp2
        go_roundg (n - (k + 1))
        case measure => omega
        case rel => exact ⟨rfl, k + 1, by omega, by omega, by go_num, 2 * m + 1, by go_num, by show _ = _; rw [nx.out]; rfl⟩
    · have hv : Hid (m = num l) := by
        show _ = _
        have := HN.out
        rw [A.out, List.take_of_length_le (by omega)]
      clear A
      go_wp2
      go_ret
      exact ⟨ret_int (by rw [hv.out]), rfl⟩

theorem wpList_appendNums {ops : Array Oper} {rest : List Oper} {o : Oper} {a : Act} {Q : Exit → Act → World → Prop} (hgd : o.guard = none) (s x : Operand)
    (ho : o.op = .call { callee := .builtin .append, args := #[s, x], argTypes := #[28, 28] }) (w0 wr : World) (v : Value) (hs : a.eval s = v) (z : List Int) (hown : OwnN w0 wr v z)
    (y : Nm) (hx : a.eval x = y.v) (hy : Nums wr y) (hb : (z.length + y.z.length) * 8 ≤ 140737488355328)
    (h : ∀ v' w', OwnN w0 w' v' (z ++ y.z) → wpList Try.prog ops Q rest (a.put o.dst v') w') : wpList Try.prog ops Q (o :: rest) a wr := by
  obtain ⟨i0, hi, hz0, hz1, hz2⟩ := info_parts info3
  obtain ⟨he, hown⟩ := hown
  obtain ⟨y1, y2, y0, b, off, y3, y4⟩ := hy
  obtain ⟨ya, yc, yl⟩ := y
  simp only [Nm.v] at hx y0 y1 y2 y3 y4 h hb
  cases ya with
  | none =>
    have hyc := y0 rfl
    have : yl = [] := List.eq_nil_of_length_eq_zero (by omega)
    subst this
    subst hyc
    refine wpList_append_own_none hgd s x 28 ho w0.heap.size 3 i0 1 Try.underlying28 hi v z.length (z.map (Value.int .i64)) hs hown hx (h v wr ?_)
    rw [List.append_nil]
    exact ⟨he, hown⟩
  | some ad =>
    refine wpList_append_own wr hgd s x 28 ho w0.heap.size 3 i0 (.int .i64 0) 1 8 Try.underlying28 hi hz0 hz1 hz2 rfl (by decide) v z.length (z.map (Value.int .i64)) hs hown ad yl.length yc (yl.map (Value.int .i64)) hx (by simp) ?_ ?_ ?_ (by omega) he.size ?_
    · intro j u hj
      have hj' : j < yl.length := by
        rcases Nat.lt_or_ge j yl.length with h' | h'
        · exact h'
        · rw [List.getElem?_eq_none (by simpa using h')] at hj; cases hj
      have had := y3 (by omega)
      simp only [Option.some.injEq] at had
      subst had
      rw [Addr.add_lit, y4 j hj']
      simp [hj'] at hj
      simp [List.getD_eq_getElem?_getD, hj', hj]
    · intro u hu
      obtain ⟨q, _, rfl⟩ := List.mem_map.1 hu
      rfl
    · unfold maxLen; omega
    · intro v' w' hown' hgr _
      refine h v' w' ⟨?_, ?_⟩
      · exact Below.grown he hgr he.size (fun k hk => (hown.lt k hk).1)
      · rw [List.length_append, List.map_append]
        exact hown'

set_option maxHeartbeats 400000 in
theorem clone_any (x : Nm) (w : World) (hx : Nums w x) (hb : x.z.length * 8 ≤ 140737488355328) :
    Calls Try.prog 33 #[x.v] w fun e w' => ∃ v, e = .returned v ∧ OwnN w w' v x.z := by
  cases ha : x.a with
  | none =>
    have h0 := hx.2.2.1 ha
    have h1 := hx.1
    obtain ⟨a, c, z⟩ := x
    simp only [Nm.v] at *
    subst ha h0
    have : z = [] := List.eq_nil_of_length_eq_zero (by omega)
    subst this
    simp only [List.length_nil]
    have he : ∀ w : World, (binOp .eql 28 (.slice none 0 0) (.slice none 0 0)).run Try.prog w = .ok (.bool true) w := fun _ => rfl
    go_enter Try.func33, Try.ntmps33
    go_wp2
    go_ret
    exact ⟨_, rfl, OwnN.nil (Ext.refl w)⟩
  | some p =>
    have hv : x.v = .slice (some p) x.z.length x.c := by rw [Nm.v, ha]
    have HX : Hid (Nums (w.alloc (.cells #[] 3)) x) := hx.ext ((Ext.refl w).alloc _)
    have HV : Hid (x.v = .slice (some p) x.z.length x.c) := hv
    have ho : Hid (OwnN w (w.alloc (.cells #[] 3)) (.slice (some ⟨w.heap.size, 0, none⟩) 0 0) []) := by
      refine ⟨(Ext.refl w).alloc _, rfl, Or.inr ⟨w.heap.size, 0, #[], rfl, Nat.le_refl _, heap_alloc_new _ _, Nat.le_refl _, by simp, rfl, rfl⟩⟩
    rw [hv]
    have hm1 := hx.1
    have hm2 := hx.2.1
    unfold maxLen at hm2
    have HB : Hid ((([] : List Int).length + x.z.length) * 8 ≤ 140737488355328) := by
      show _ ≤ _
      rw [List.length_nil, Nat.zero_add]
      exact hb
    have hm3 : x.z.length ≤ x.c := hm1
    clear hv hx hb hm1
    obtain ⟨n, hn⟩ : ∃ n, x.z.length = n := ⟨_, rfl⟩
    obtain ⟨c, hc⟩ : ∃ c, x.c = c := ⟨_, rfl⟩
    have HV : Hid (x.v = .slice (some p) n c) := by show _ = _; rw [HV.out, hn, hc]
    rw [hn, hc] at hm3 ⊢
    rw [hc] at hm2
    clear hn hc ha
    have he : ∀ w : World, (binOp .eql 28 (.slice (some p) n c) (.slice none 0 0)).run Try.prog w = .ok (.bool false) w := fun _ => rfl
    go_enter Try.func33, Try.ntmps33
    go_wp2_with (at_builtin; refine wpList_appendNums rfl _ _ rfl w _ _ (by rfl) [] ho.out x (by exact HV.out.symm) HX.out HB.out ?_; intro v' w1 B; rw [List.nil_append] at B)
    go_ret
    exact ⟨_, rfl, B⟩

end Go.Proofs.Ytlhkifbjbibfoaa
