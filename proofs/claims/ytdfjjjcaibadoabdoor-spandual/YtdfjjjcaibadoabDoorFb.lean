/-
  slices.IndexFunc and slices.ContainsFunc of words; span.Dual and its closure.
-/
import Derived.Test.YtdfjjjcaibadoabDoorFc
import Derived.Test.YtdfjjjcaibadoabDoorRs
import Derived.Test.YtdfjjjcaibadoabDoorOn
namespace Go.Proofs.YtdfjjjcaibadoabDoor
open Go.RowKit

/-- A function value that answers p of each of the words, whatever has been laid since. -/
def PredU (w : World) (f : Nat) (lb : Array Value) (p : Nat → Bool) (g : List Nat) : Prop :=
  ∀ (W : World) (y : Nat), y ∈ g → Ext w W → Calls Tryd.prog f (#[.int .u32 (y : Nat)] ++ lb) W fun e w' => e = .returned (.bool (p y)) ∧ Ext W w'

theorem indexU_any (x : Um) (f : Nat) (lb : Array Value) (p : Nat → Bool) (w : World)
    (eg : ∀ args w, (callFunc f args).run Tryd.prog w = .ok (.enter f args) w) (hg : Us w x) (hp : PredU w f lb p x.z) :
    Calls Tryd.prog 27 #[x.v, .func (.func f) #[] lb] w fun e w' => (∃ r : Int, e = .returned (.int .i64 r) ∧ decide (0 ≤ r) = x.z.any p) ∧ Ext w w' := by
  obtain ⟨a, c, g⟩ := x
  obtain ⟨h1, h2, _, b, o, h4, h5⟩ := hg
  simp only at h1 h2 h4 h5 hp
  simp only [Um.v]
  unfold maxLen at h2
  have H5 : Hid (∀ i, i < g.length → w.cell? ⟨b, o + i, none⟩ = some (.int .u32 (g.getD i 0 : Nat))) := h5
  have HP : Hid (∀ k W, k < g.length → Ext w W → Calls Tryd.prog f (#[.int .u32 (g.getD k 0 : Nat)] ++ lb) W fun e w' => e = .returned (.bool (p (g.getD k 0))) ∧ Ext W w') := fun k W hk E => hp W _ (by rw [getD_get hk]; exact List.getElem_mem hk) E
  have yes : Hid (∀ k, k < g.length → p (g.getD k 0) = true → g.any p = true) := fun k hk h => List.any_eq_true.2 ⟨_, List.getElem_mem hk, by rw [getD_get hk] at h; exact h⟩
  have no : Hid ((∀ k, k < g.length → p (g.getD k 0) = false) → g.any p = false) := fun h => List.any_eq_false.2 (fun y hy => by
    obtain ⟨i, hi, rfl⟩ := List.mem_iff_getElem.1 hy
    have := h i hi
    rw [getD_get hi] at this
    simp [this])
  generalize g.any p = R at *
  clear h5 hp
  have L : ∃ m, g.length = m := ⟨_, rfl⟩
  obtain ⟨n, hm⟩ := L
  rw [hm] at h1 h4 H5 HP yes no ⊢
  clear hm
  go_enter Tryd.func27, Tryd.ntmps27
  go_wp2
  go_loopg [5, 8] n (fun gg _ s8 wr => ∃ k : Nat, k ≤ n ∧ n - k ≤ gg ∧ s8 = .int .i64 k ∧ Aside (Ext w wr) ∧ Aside (∀ j, j < k → p (g.getD j 0) = false))
  case atStart => exact ⟨0, Nat.zero_le _, by omega, rfl, Ext.refl w, fun j h => absurd h (Nat.not_lt_zero _)⟩
  case round =>
    obtain ⟨k, hk, hgg, rfl, BW, A⟩ := hrel
    by_cases hlt : k < n
    · have hltz : (k : Int) < (n : Int) := by omega
      obtain rfl := h4 (by omega)
      have e1 := BW.out.cell (H5.out k hlt)
      have hcall := HP.out k wr hlt BW.out
      have hit : Aside (p (g.getD k 0) = true → R = true) := yes.out k hlt
      have miss : Aside (p (g.getD k 0) = false → ∀ j, j < k + 1 → p (g.getD j 0) = false) := fun h j hj => by
        rcases Nat.lt_succ_iff_lt_or_eq.1 hj with h' | rfl
        · exact A.out j h'
        · exact h
      generalize g.getD k 0 = y at e1 hcall hit miss
      clear h4
      cases hq : p y with
      | true =>
        rw [hq] at hcall
        have hf : Aside (R = true) := hit.out hq
        clear hq hit miss
        go_wp2_with (go_at_fn f; refine hcall.mono ?_; rintro e w' ⟨rfl, hb'⟩)
        go_ret
        exact ⟨⟨_, rfl, by rw [hf.out]; simp⟩, BW.out.trans hb'⟩
      | false =>
        rw [hq] at hcall
        have hf : Aside (∀ j, j < k + 1 → p (g.getD j 0) = false) := miss.out hq
        clear hq hit miss
        go_wp2_with (go_at_fn f; refine hcall.mono ?_; rintro e w' ⟨rfl, hb'⟩)
        go_roundg (n - (k + 1))
        case measure => omega
        case rel => exact ⟨k + 1, by omega, by omega, by go_num, BW.out.trans hb', hf.out⟩
    · have hm : Aside (R = false) := no.out (fun j hj => A.out j (by omega))
      go_wp2
      go_ret
      exact ⟨⟨-1, rfl, by rw [hm.out]; decide⟩, BW.out⟩

theorem hasU_any (x : Um) (f : Nat) (lb : Array Value) (p : Nat → Bool) (w : World)
    (eg : ∀ args w, (callFunc f args).run Tryd.prog w = .ok (.enter f args) w) (hg : Us w x) (hp : PredU w f lb p x.z) :
    Calls Tryd.prog 15 #[x.v, .func (.func f) #[] lb] w fun e w' => e = .returned (.bool (x.z.any p)) ∧ Ext w w' := by
  have hc := indexU_any x f lb p w eg hg hp
  clear hg hp eg
  obtain ⟨a, c, g⟩ := x
  simp only [Um.v] at *
  generalize g.any p = R at *
  generalize g.length = n at *
  go_enter Tryd.func15, Tryd.ntmps15
  go_wp2_with fail
  refine hc.mono ?_
  rintro e w' ⟨⟨r, rfl, hr⟩, E⟩
  have HR : Aside (decide (0 ≤ r) = R) := hr
  have EE : Aside (Ext w w') := E
  clear hc hr E
  go_wp2
  go_ret
  exact ⟨by rw [← HR.out]; rfl, EE.out⟩

/-- span.OddInCommon. -/
theorem oddIn_any (y q : Nat) (hy : y < 4096) (hq : q < 4096) (w : World) :
    Calls Tryd.prog 14 #[.int .u32 (y : Nat), .int .u32 (q : Nat)] w fun e w' => e = .returned (.bool (odd y q)) ∧ Ext w w' := by
  have hm : y &&& q < 2 ^ 12 := Nat.and_lt_two_pow _ (by omega)
  have c2 := ones_any (y &&& q) (by omega) w
  have e2 := u32_and_nat y q (by omega) (by omega)
  have l1 : pop (y &&& q) ≤ 32 := popN_le 32 (y &&& q)
  unfold odd
  generalize pop (y &&& q) = P at *
  generalize y &&& q = X at *
  obtain ⟨t, ht⟩ : ∃ t, P % 2 = t := ⟨_, rfl⟩
  have qz : (P : Int).tmod 2 = (t : Int) := by
    rw [show (2 : Int) = ((2 : Nat) : Int) from rfl, ← Int.ofNat_tmod, ht]
  have hq2 : t < 2 := by omega
  rw [ht]
  clear ht
  go_enter Tryd.func14, Tryd.ntmps14
  go_wp2_with fail
  refine c2.mono ?_
  rintro e w' ⟨rfl, d, rfl⟩
  clear c2
  go_wp2
  go_ret
  exact ⟨ret_bool (by rw [Bool.eq_iff_iff, beq_iff_eq, beq_iff_eq]; omega), (Ext.refl w).drewN d⟩

/-- The closure of span.Dual: whether a row has an odd number of bits in common with q. -/
theorem odd_q (y q : Nat) (hy : y < 4096) (hq : q < 4096) (p : Addr) (w : World) (h : w.cell? p = some (.int .u32 (q : Nat))) :
    Calls Tryd.prog 13 #[.int .u32 (y : Nat), .pointer (some p)] w fun e w' => e = .returned (.bool (odd y q)) ∧ Ext w w' := by
  have c2 := oddIn_any y q hy hq w
  generalize odd y q = P at *
  go_enter Tryd.func13, Tryd.ntmps13
  go_wp2_with fail
  refine c2.mono ?_
  rintro e w' ⟨rfl, E⟩
  clear c2
  have X : Hid (Ext w w') := E
  go_wp2
  go_ret
  exact ⟨rfl, X.out⟩

theorem any_odd (g : List Nat) (q : Nat) : g.any (fun y => odd y q) = !evn g q := by
  unfold evn
  induction g with
  | nil => rfl
  | cons a g ih => simp only [List.any_cons, List.all_cons, ih, Bool.not_and, Bool.not_not]

theorem dual_bad (n : Int) (x : Um) (hb : ∀ y ∈ x.z, y < 4294967296) (h : re n x.z ≠ 0) (w : World) (hx : Us w x) :
    Calls Tryd.prog 5 #[.int .i64 n, x.v] w fun e w' => e = .returned (.tuple #[.slice none 0 0, .int .i64 (re n x.z)]) ∧ Ext w w' := by
  have c1 := checkRows_any n x hb w hx
  have hz : (re n x.z != 0) = true := by rw [bne_iff_ne]; exact h
  clear h hb hx
  generalize re n x.z = R at *
  obtain ⟨a, c, g⟩ := x
  simp only [Um.v] at *
  generalize g.length = m at *
  go_enter Tryd.func5, Tryd.ntmps5
  go_wp2_with fail
  refine c1.mono ?_
  rintro e w' ⟨rfl, rfl⟩
  clear c1
  go_wp2
  go_ret2
  exact ⟨rfl, Ext.refl _⟩

set_option maxHeartbeats 1000000 in
theorem dual_good (n : Nat) (hn : n ≤ 12) (x : Um) (hl : x.z.length ≤ 8) (hb : ∀ y ∈ x.z, y < 2 ^ n) (w : World) (hx : Us w x) :
    Calls Tryd.prog 5 #[.int .i64 n, x.v] w fun e w' => Hid (∃ v, e = .returned (.tuple #[v, .int .i64 0]) ∧ OwnU w w' v (dl n x.z)) := by
  have c1 := checkRows_any n x (rows_low hn hb) w hx
  rw [re_good hn hl hb] at c1
  have hM : 2 ^ n ≤ 2 ^ 12 := Nat.pow_le_pow_right (by omega) hn
  have pw : (2 : Int) ^ n % 4294967296 = ((2 ^ n : Nat) : Int) := pow_in _ (by omega)
  have eg : ∀ args w, (callFunc 13 args).run Tryd.prog w = .ok (.enter 13 args) w := fun args w => by rfl
  have HS : Hid (∀ (q B : Nat) (W : World), q < 4096 → Ext w W → W.cell? ⟨B, 0, none⟩ = some (.int .u32 (q : Nat)) → Calls Tryd.prog 15 #[x.v, .func (.func 13) #[] #[.pointer (some ⟨B, 0, none⟩)]] W fun e w' => e = .returned (.bool (!evn x.z q)) ∧ Ext W w') := fun q B W hq E hc => by
    have := hasU_any x 13 #[.pointer (some ⟨B, 0, none⟩)] (fun y => odd y q) W eg (hx.ext E) (fun W2 y hy E2 => odd_q y q (by have := hb y hy; omega) hq ⟨B, 0, none⟩ W2 (E2.cell hc))
    rw [any_odd] at this
    exact this
  have FI : Hid (dl n x.z = upTo (evn x.z) (2 ^ n)) := rfl
  clear hb hx eg
  generalize dl n x.z = R at *
  obtain ⟨a, c, g⟩ := x
  simp only [Um.v] at *
  generalize g.length = m at *
  generalize evn g = H at *
  generalize 2 ^ n = M at *
  go_enter Tryd.func5, Tryd.ntmps5
  go_wp2_with fail
  refine c1.mono ?_
  rintro e w1 ⟨rfl, rfl⟩
  clear c1
  go_wp2
  rw [pw]
  clear pw
  go_loopg [7, 18] M (fun gg s7 s18 wr => ∃ k : Nat, k ≤ M ∧ M - k ≤ gg ∧ s18 = .int .u32 k ∧ Aside (OwnU w1 wr s7 (upTo H k)))
  case atStart => exact ⟨0, Nat.zero_le _, by omega, rfl, OwnU.nil (Ext.refl _)⟩
  case round =>
    obtain ⟨k, hk, hg, rfl, O⟩ := hrel
    by_cases hlt : k < M
    · have hltz : (k : Int) < (M : Int) := by omega
      have AE : Hid (Ext wr (wr.alloc (.cells #[.int .u32 (k : Nat)] 23))) := (Ext.refl wr).alloc _
      have ce : (wr.alloc (.cells #[.int .u32 (k : Nat)] 23)).cell? ⟨wr.heap.size, 0, none⟩ = some (.int .u32 (k : Nat)) := new_cell _ _ _
      have OO : Hid (OwnU w1 wr u7 (upTo H k)) := O.out
      have c2 := HS.out k wr.heap.size (wr.alloc (.cells #[.int .u32 (k : Nat)] 23)) (by omega) (OO.out.1.trans AE.out) ce
      have hfl : Hid (((upTo H k).length + 1) * 4 ≤ 140737488355328) := by show _ ≤ _; have := upTo_few H k; omega
      clear O HS FI
      cases hq : H k
      · have NX : Hid (upTo H (k + 1) = upTo H k) := upTo_no hq
        rw [hq] at c2
        clear hq
        go_wp2_with fail
        refine c2.mono ?_
        rintro e w2 ⟨rfl, E2⟩
        have O2 : Hid (OwnU w1 w2 u7 (upTo H (k + 1))) := by show OwnU _ _ _ _; rw [NX.out]; exact OO.out.ext (AE.out.trans E2)
        clear c2 E2 OO AE ce
        go_wp2
        go_roundg (M - (k + 1))
        case measure => omega
        case rel => exact ⟨k + 1, by omega, by omega, by go_num, O2.out⟩
      · have NX : Hid (upTo H (k + 1) = upTo H k ++ [k]) := upTo_yes hq
        rw [hq] at c2
        clear hq
        go_wp2_with fail
        refine c2.mono ?_
        rintro e w2 ⟨rfl, E2⟩
        have O2 : Hid (OwnU w1 w2 u7 (upTo H k)) := OO.out.ext (AE.out.trans E2)
        have ce3 := E2.cell ce
        clear c2 E2 OO AE ce
        go_wp2_with (at_builtin; refine wpList_appendU rfl _ _ rfl w1 _ u7 (by rfl) _ O2.out k (by rfl) hfl.out ?_; intro v' w3 O3; have O3' : Hid (OwnU w1 w3 v' (upTo H (k + 1))) := by (show OwnU _ _ _ _; rw [NX.out]; exact O3))
        go_roundg (M - (k + 1))
        case measure => omega
        case rel => exact ⟨k + 1, by omega, by omega, by go_num, O3'.out⟩
    · obtain rfl : k = M := by omega
      have hltz : ¬ (k : Int) < (k : Int) := by omega
      have OO : Hid (OwnU w1 wr u7 R) := by show OwnU _ _ _ _; rw [FI.out]; exact O.out
      clear O HS
      go_wp2
      go_ret2
      exact ⟨u7, rfl, OO.out⟩

end Go.Proofs.YtdfjjjcaibadoabDoor
