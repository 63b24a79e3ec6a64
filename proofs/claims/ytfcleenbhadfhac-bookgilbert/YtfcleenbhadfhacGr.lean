/-
  slices.IndexFunc and slices.ContainsFunc of words; book.Grow and its closure.
-/
import Derived.Test.YtfcleenbhadfhacNr
import Derived.Shelf.Abstract
namespace Go.Proofs.Ytfcleenbhadfhac
open Go.RowKit

/-- A function value that answers p of each of the words, whatever has been laid since. -/
def PredU (w : World) (f : Nat) (lb : Array Value) (p : Nat → Bool) (g : List Nat) : Prop :=
  ∀ (W : World) (y : Nat), y ∈ g → Ext w W → Calls Try.prog f (#[.int .u32 (y : Nat)] ++ lb) W fun e w' => e = .returned (.bool (p y)) ∧ Ext W w'

theorem indexU_any (x : Um) (f : Nat) (lb : Array Value) (p : Nat → Bool) (w : World)
    (eg : ∀ args w, (callFunc f args).run Try.prog w = .ok (.enter f args) w) (hg : Us w x) (hp : PredU w f lb p x.z) :
    Calls Try.prog 27 #[x.v, .func (.func f) #[] lb] w fun e w' => (∃ r : Int, e = .returned (.int .i64 r) ∧ decide (0 ≤ r) = x.z.any p) ∧ Ext w w' := by
  obtain ⟨a, c, g⟩ := x
  obtain ⟨h1, h2, _, b, o, h4, h5⟩ := hg
  simp only at h1 h2 h4 h5 hp
  simp only [Um.v]
  unfold maxLen at h2
  have H5 : Hid (∀ i, i < g.length → w.cell? ⟨b, o + i, none⟩ = some (.int .u32 (g.getD i 0 : Nat))) := h5
  have HP : Hid (∀ k W, k < g.length → Ext w W → Calls Try.prog f (#[.int .u32 (g.getD k 0 : Nat)] ++ lb) W fun e w' => e = .returned (.bool (p (g.getD k 0))) ∧ Ext W w') := fun k W hk E => hp W _ (by rw [getD_get hk]; exact List.getElem_mem hk) E
  have yes : Hid (∀ k, k < g.length → p (g.getD k 0) = true → g.any p = true) := fun k hk h => List.any_eq_true.2 ⟨_, List.getElem_mem hk, by rw [getD_get hk] at h; exact h⟩
  have no : Hid ((∀ k, k < g.length → p (g.getD k 0) = false) → g.any p = false) := fun h => List.any_eq_false.2 (fun y hy => by
    obtain ⟨i, hi, rfl⟩ := List.mem_iff_getElem.1 hy
    have := h i hi
    rw [getD_get hi] at this
    simp [this])
  generalize g.any p = R at *
  clear h5 hp
  have L : ∃ m, g.length = m := ⟨_, rfl⟩
  obtain ⟨n, hm⟩ := L
  rw [hm] at h1 h4 H5 HP yes no ⊢
  clear hm
  go_enter Try.func27, Try.ntmps27
  go_wp2
  go_loopg [5, 8] n (fun gg _ s8 wr => ∃ k : Nat, k ≤ n ∧ n - k ≤ gg ∧ s8 = .int .i64 k ∧ Aside (Ext w wr) ∧ Aside (∀ j, j < k → p (g.getD j 0) = false))
  case atStart => exact ⟨0, Nat.zero_le _, by omega, rfl, Ext.refl w, fun j h => absurd h (Nat.not_lt_zero _)⟩
  case round =>
    obtain ⟨k, hk, hgg, rfl, BW, A⟩ := hrel
    by_cases hlt : k < n
    · have hltz : (k : Int) < (n : Int) := by omega
      obtain rfl := h4 (by omega)
      have e1 := BW.out.cell (H5.out k hlt)
      have hcall := HP.out k wr hlt BW.out
      have hit : Aside (p (g.getD k 0) = true → R = true) := yes.out k hlt
      have miss : Aside (p (g.getD k 0) = false → ∀ j, j < k + 1 → p (g.getD j 0) = false) := fun h j hj => by
        rcases Nat.lt_succ_iff_lt_or_eq.1 hj with h' | rfl
        · exact A.out j h'
        · exact h
      generalize g.getD k 0 = y at e1 hcall hit miss
      clear h4
      cases hq : p y with
      | true =>
        rw [hq] at hcall
        have hf : Aside (R = true) := hit.out hq
        clear hq hit miss
        go_wp2_with (go_at_fn f; refine hcall.mono ?_; rintro e w' ⟨rfl, hb'⟩)
        go_ret
        exact ⟨⟨_, rfl, by rw [hf.out]; simp⟩, BW.out.trans hb'⟩
      | false =>
        rw [hq] at hcall
        have hf : Aside (∀ j, j < k + 1 → p (g.getD j 0) = false) := miss.out hq
        clear hq hit miss
        go_wp2_with (go_at_fn f; refine hcall.mono ?_; rintro e w' ⟨rfl, hb'⟩)
        go_roundg (n - (k + 1))
        case measure => omega
        case rel => exact ⟨k + 1, by omega, by omega, by go_num, BW.out.trans hb', hf.out⟩
    · have hm : Aside (R = false) := no.out (fun j hj => A.out j (by omega))
      go_wp2
      go_ret
      exact ⟨⟨-1, rfl, by rw [hm.out]; decide⟩, BW.out⟩

theorem hasU_any (x : Um) (f : Nat) (lb : Array Value) (p : Nat → Bool) (w : World)
    (eg : ∀ args w, (callFunc f args).run Try.prog w = .ok (.enter f args) w) (hg : Us w x) (hp : PredU w f lb p x.z) :
    Calls Try.prog 17 #[x.v, .func (.func f) #[] lb] w fun e w' => e = .returned (.bool (x.z.any p)) ∧ Ext w w' := by
  have hc := indexU_any x f lb p w eg hg hp
  clear hg hp eg
  obtain ⟨a, c, g⟩ := x
  simp only [Um.v] at *
  generalize g.any p = R at *
  generalize g.length = n at *
  go_enter Try.func17, Try.ntmps17
  go_wp2_with fail
  refine hc.mono ?_
  rintro e w' ⟨⟨r, rfl, hr⟩, E⟩
  have HR : Aside (decide (0 ≤ r) = R) := hr
  have EE : Aside (Ext w w') := E
  clear hc hr E
  go_wp2
  go_ret
  exact ⟨by rw [← HR.out]; rfl, EE.out⟩

/-- The closure of book.Grow: whether a word is nearer to q than d. -/
theorem near_q (y q : Nat) (d : Int) (hy : y < 4096) (hq : q < 4096) (p1 p2 : Addr) (w : World) (h1 : w.cell? p1 = some (.int .u32 (q : Nat))) (h2 : w.cell? p2 = some (.int .i64 d)) :
    Calls Try.prog 15 #[.int .u32 (y : Nat), .pointer (some p1), .pointer (some p2)] w fun e w' => e = .returned (.bool (decide ((far y q : Int) < d))) ∧ Ext w w' := by
  have c1 : Hid (∀ d, Calls Try.prog 16 #[.int .u32 (y : Nat), .int .u32 (q : Nat)] (w.drewN d) fun e w' => e = .returned (.int .i64 (far y q : Nat)) ∧ ∃ d', w' = (w.drewN d).drewN d') := fun d => apart_qt y q hy hq _
  generalize far y q = F at *
  go_enter Try.func15, Try.ntmps15
  go_wp2
  go_quiet ((go_at_call 16; exact Calls.quiet_of (c1.out _)))
  go_wp2
  go_ret
  exact ⟨rfl, (Ext.refl w).drewN _⟩

end Go.Proofs.Ytfcleenbhadfhac
