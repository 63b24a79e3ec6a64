/-
  For any rows and any data the program tells the sum of those rows that are set: SpanPuts returns true for every number, every list of words and every list of bits, and changes nothing.
-/
import Derived.Test.YtdfjjjcaibadoaaOpu
import Derived.Test.YtdfjjjcaibadoaaPt
namespace Go.Proofs.Ytdfjjjcaibadoaa
open Go.ChangeShapes Go.WideShapes Go.ChangeAt Go.RowKit Go.Deep
set_option linter.unusedVariables false

theorem spanPuts_bad (n : Int) (x : Um) (hb : ∀ y ∈ x.z, y < 4294967296) (h : re n x.z ≠ 0) (y : Bm) (w : World) (hx : Us w x) :
    Calls Try.prog 6 #[.int .i64 n, x.v, y.v] w fun e w' => e = .returned (.bool true) ∧ Ext w w' := by
  have c1 := put_bad n x hb y h w hx
  have c2 : Hid (∀ W, Ext w W → Calls Try.prog 9 #[.int .i64 n, x.v] W fun e w' => e = .returned (.int .i64 (re n x.z)) ∧ w' = W) := fun W E => refRows_any n x hb W (hx.ext E)
  have hz : (re n x.z != 0) = true := by rw [bne_iff_ne]; exact h
  have hz2 : (re n x.z == 0) = false := by rw [beq_eq_false_iff_ne]; exact h
  clear h hb hx
  generalize re n x.z = R at *
  obtain ⟨a, c, g⟩ := x
  obtain ⟨ay, cy, l⟩ := y
  simp only [Um.v, Bm.v] at *
  generalize g.length = m at *
  generalize l.length = ml at *
  go_enter Try.func6, Try.ntmps6
  go_wp2_with fail
  refine c1.mono ?_
  rintro e w1 ⟨rfl, E1⟩
  have X1 : Aside (Ext w w1) := E1
  have c2' := c2.out w1 E1
  clear c1 c2 E1
  go_wp2_with fail
  refine c2'.mono ?_
  rintro e w2 ⟨rfl, rfl⟩
  clear c2'
  go_wp2
  go_ret
  exact ⟨ret_bool (by simp), X1.out⟩

theorem spanPuts_form (n : Nat) (hn : n ≤ 12) (x : Um) (hl : x.z.length ≤ 8) (hb : ∀ y ∈ x.z, y < 2 ^ n) (y : Bm) (h : y.l.length ≠ x.z.length) (w : World) (hx : Us w x) (hy : Bs w y) :
    Calls Try.prog 6 #[.int .i64 n, x.v, y.v] w fun e w' => e = .returned (.bool true) ∧ Ext w w' := by
  have hml := Nat.le_trans hy.1 hy.2.1
  have c1 := put_form n hn x hl hb y hml h w hx
  have c2 : Hid (∀ W, Ext w W → Calls Try.prog 9 #[.int .i64 n, x.v] W fun e w' => e = .returned (.int .i64 0) ∧ w' = W) := fun W E => by
    have := refRows_any n x (rows_low hn hb) W (hx.ext E)
    rw [re_good hn hl hb] at this
    exact this
  unfold maxLen at hml
  clear hb hx hy
  obtain ⟨a, c, g⟩ := x
  obtain ⟨ay, cy, l⟩ := y
  simp only [Um.v, Bm.v] at *
  generalize g.length = m at *
  generalize l.length = ml at *
  have hz : ((ml : Int) != (m : Int)) = true := by rw [bne_iff_ne]; omega
  clear h
  go_enter Try.func6, Try.ntmps6
  go_wp2_with fail
  refine c1.mono ?_
  rintro e w1 ⟨rfl, E1⟩
  have X1 : Aside (Ext w w1) := E1
  have c2' := c2.out w1 E1
  clear c1 c2 E1
  go_wp2_with fail
  refine c2'.mono ?_
  rintro e w2 ⟨rfl, rfl⟩
  clear c2'
  go_wp2
  go_ret
  exact ⟨ret_bool (by simp), X1.out⟩

theorem spanPuts_good (n : Nat) (hn : n ≤ 12) (x : Um) (hl : x.z.length ≤ 8) (hb : ∀ y ∈ x.z, y < 2 ^ n) (y : Bm) (h : y.l.length = x.z.length) (w : World) (hx : Us w x) (hy : Bs w y) :
    Calls Try.prog 6 #[.int .i64 n, x.v, y.v] w fun e w' => e = .returned (.bool true) ∧ Ext w w' := by
  have c1 := put_good n hn x hl hb y h w hx hy
  have c2 : Hid (∀ W, Ext w W → Calls Try.prog 9 #[.int .i64 n, x.v] W fun e w' => e = .returned (.int .i64 0) ∧ w' = W) := fun W E => by
    have := refRows_any n x (rows_low hn hb) W (hx.ext E)
    rw [re_good hn hl hb] at this
    exact this
  have c3 : Hid (∀ s W, s < 4294967296 → Ext w W → Calls Try.prog 18 #[x.v, .int .u32 (s : Nat)] W fun e w' => e = .returned (.int .u32 (sm x.z s : Nat)) ∧ w' = W) := fun s W hs E => refSum_any x s hs (by omega) (rows_low hn hb) W (hx.ext E)
  have SE : Hid (sP x.z (fun k => y.l.getD k false) x.z.length = sm x.z (setOf (fun k => y.l.getD k false) x.z.length)) := sP_set x.z _
  have SB : Hid (∀ k, k ≤ 8 → setOf (fun k => y.l.getD k false) k < 2 ^ k) := fun k _ => setOf_lt _ k
  have SN : Hid (∀ k, setOf (fun k => y.l.getD k false) (k + 1) = setOf (fun k => y.l.getD k false) k + (if y.l.getD k false then 2 ^ k else 0)) := fun _ => rfl
  have S0 : Hid (setOf (fun k => y.l.getD k false) 0 = 0) := rfl
  clear hb hx
  obtain ⟨a, c, g⟩ := x
  obtain ⟨ay, cy, l⟩ := y
  obtain ⟨h1, h2, _, b, o, h4, h5⟩ := hy
  simp only at h1 h2 h4 h5 h hl
  simp only [Um.v, Bm.v] at *
  have H5 : Hid (∀ i, i < l.length → w.cell? ⟨b, o + i, none⟩ = some (.bool (l.getD i false))) := h5
  clear h5 h2
  generalize setOf (fun k => l.getD k false) = F at *
  generalize sP g (fun k => l.getD k false) g.length = R at *
  generalize sm g = S at *
  generalize g.length = m at *
  generalize l.length = ml at *
  subst h
  have hz : ((ml : Int) != (ml : Int)) = false := by simp
  go_enter Try.func6, Try.ntmps6
  go_wp2_with fail
  refine c1.mono ?_
  rintro e w1 ⟨rfl, E1⟩
  have X1 : Aside (Ext w w1) := E1
  have c2' := c2.out w1 E1
  clear c1 c2 E1
  go_wp2_with fail
  refine c2'.mono ?_
  rintro e w2 ⟨rfl, rfl⟩
  clear c2'
  go_wp2
  go_loopg [10, 43] ml (fun gg s10 s43 wr => ∃ k : Nat, k ≤ ml ∧ ml - k ≤ gg ∧ s43 = .int .i64 k ∧ s10 = .int .u32 (F k : Nat) ∧ wr = w2)
  case atStart => exact ⟨0, Nat.zero_le _, by omega, rfl, by rw [S0.out]; rfl, rfl⟩
  case round =>
    obtain ⟨k, hk, hg, rfl, rfl, rfl⟩ := hrel
    by_cases hlt : k < ml
    · have hltz : (k : Int) < (ml : Int) := by omega
      obtain rfl := h4 (by omega)
      have e1 := X1.out.cell (H5.out k hlt)
      have nx := SN.out k
      have hb1 := SB.out k (by omega)
      have pw : (2 : Int) ^ k % 4294967296 = ((2 ^ k : Nat) : Int) := pow_in _ (by omega)
      have hp : 2 ^ k ≤ 2 ^ 8 := Nat.pow_le_pow_right (by omega) (by omega)
      cases hq : l.getD k false
      · rw [hq] at nx e1
        have NX : Hid (F (k + 1) = F k) := nx
        clear nx hq pw SN S0 SE SB c3
        generalize F k = A at *
        go_wp2
        go_roundg (ml - (k + 1))
        case measure => omega
        case rel => exact ⟨k + 1, by omega, by omega, by go_num, by rw [NX.out], rfl⟩
      · rw [hq] at nx e1
        have NX : Hid (F (k + 1) = F k + 2 ^ k) := nx
        clear nx hq SN S0 SE SB c3
        generalize 2 ^ k = T at *
        generalize F k = A at *
        go_wp2
        go_roundg (ml - (k + 1))
        case measure => omega
        case rel => exact ⟨k + 1, by omega, by omega, by go_num, by rw [NX.out]; go_num, rfl⟩
    · obtain rfl : k = ml := by omega
      have hltz : ¬ (k : Int) < (k : Int) := by omega
      have hb1 := SB.out k (by omega)
      have hp : 2 ^ k ≤ 2 ^ 8 := Nat.pow_le_pow_right (by omega) (by omega)
      have c3' := c3.out (F k) wr (by omega) X1.out
      rw [← SE.out] at c3'
      clear c3 SE SN S0 SB hb1 hp
      generalize F k = A at *
      go_wp2_with fail
      refine c3'.mono ?_
      rintro e w3 ⟨rfl, rfl⟩
      clear c3'
      go_wp2
      go_ret
      exact ⟨ret_bool (by simp), X1.out⟩

theorem spanPuts_walk (n : Int) (x : Um) (hb : ∀ y ∈ x.z, y < 4294967296) (y : Bm) (w : World) (hx : Us w x) (hy : Bs w y) :
    Calls Try.prog 6 #[.int .i64 n, x.v, y.v] w fun e w' => e = .returned (.bool true) ∧ Ext w w' := by
  by_cases h : re n x.z = 0
  · obtain ⟨m, rfl, h1, h2, h3⟩ := re_zero h
    by_cases hf : y.l.length = x.z.length
    · exact spanPuts_good m h1 x h2 h3 y hf w hx hy
    · exact spanPuts_form m h1 x h2 h3 y hf w hx hy
  · exact spanPuts_bad n x hb h y w hx

set_option maxRecDepth 100000 in
theorem spanPuts_lifted (os : Os) (started : os.Started) (H : Type) (enc : TypeId × Value → H) :
    ReturnsInHanded {} Try.checked os 6 .any (Rows.spanPutsSpec.pre6 enc Try.prog Try.f6 Rows.spanPutsRow.domain false) (Rows.spanPutsSpec.post enc Try.prog Try.f6 false true false false) := by
  refine returnsInHanded_of_change (C := Try.checked) own started (by kernel_rfl) Try.func6
    (ChangeSpec.witness6 (enc := enc) (C := Try.checked) false ⟨#[], #[.int .i64 0, .slice none 0 0, .slice none 0 0], []⟩ 8 (by kernel_rfl) (by kernel_rfl) (by kernel_rfl) (by kernel_rfl)) ?_
  intro W base args ds gs before hval0 hW _ _
  have hval : ∀ (j : Nat) t v, Try.f6.params[j]? = some t → args[j]? = some v → Value.okWide Try.prog W .any base t v := hval0
  have hW' := hW
  obtain ⟨p, q, hA0, hV, rfl, hfz, hnd⟩ := hW
  have hA : DataW.TrodAll enc Try.prog W 0 (fun _ => true) true Try.f6.params.toList args.toList ds p := hA0
  rw [Try.params6] at hA hval
  obtain ⟨v0, vs0, d0, ds0, p0, q0, hargs, rfl, rfl, h0, r0⟩ := trodAll_cons hA
  obtain ⟨v1, vs1, d1, ds1, p1, q1, rfl, rfl, rfl, h1, r1⟩ := trodAll_cons r0
  obtain ⟨v2, vs2, d2, ds2, p2, q2, rfl, rfl, rfl, h2, r2⟩ := trodAll_cons r1
  obtain ⟨rfl, rfl, rfl⟩ := trodAll_nil r2
  obtain rfl : args = #[v0, v1, v2] := by cases args; simp_all
  obtain ⟨rfl, rfl⟩ := trodVars_none hV
  have lt0 : ∀ x ∈ p0, x.block < W.heap.size := by obtain ⟨m, hm⟩ := h0; exact DataW.trod_lt m _ _ _ hm
  obtain ⟨x0, rfl, -, -, wf0⟩ := open_int Try.underlying3 (hval 0 3 v0 rfl rfl) h0
  have lt1 : ∀ x ∈ p1, x.block < W.heap.size := by obtain ⟨m, hm⟩ := h1; exact DataW.trod_lt m _ _ _ hm
  obtain ⟨x1, rfl, w1, b1⟩ := open_us (hval 1 22 v1 rfl rfl) h1
  have lt2 : ∀ x ∈ p2, x.block < W.heap.size := by obtain ⟨m, hm⟩ := h2; exact DataW.trod_lt m _ _ _ hm
  obtain ⟨x2, rfl, w2⟩ := open_bits (hval 2 36 v2 rfl rfl) h2
  clear hA0 hval0
  refine (spanPuts_walk x0 x1 b1 x2 W w1 w2).mono fun e W' ⟨he, bel⟩ => ?_
  subst he
  exact ⟨_, rfl, _, _, _, [], _, [], hW', trodAll_mk1 (shut_bool Try.underlying4 _), (trodAll_cons_mk (Below.trod laidOut (by kernel_rfl) (of_decide_eq_true (by kernel_rfl)) h0 bel lt0) (trodAll_cons_mk (Below.trod laidOut (by kernel_rfl) (of_decide_eq_true (by kernel_rfl)) h1 bel lt1) (trodAll_cons_mk (Below.trod laidOut (by kernel_rfl) (of_decide_eq_true (by kernel_rfl)) h2 bel lt2) trodAll_mk0))), rfl, bel.frame _, fun h => by cases h⟩

theorem spanPuts_holds : Rows.SpanPutsSaid :=
  OpenClaim.holds_of_wide 6 Try.f6 rfl rfl rfl rfl rfl rfl rfl ⟨rfl, rfl, rfl, rfl, rfl⟩ rfl rfl rfl rfl rfl (by kernel_rfl) Try.func6 (by kernel_rfl)
    (of_decide_eq_true (by kernel_rfl)) (by unfold Func.isWrapper; rw [if_neg (of_decide_eq_false (by kernel_rfl))]; exact ⟨rfl, rfl⟩)
    (fun os started H enc _ => spanPuts_lifted os started H enc)

#print axioms spanPuts_holds

end Go.Proofs.Ytdfjjjcaibadoaa
