/-
  What prefix.begins, quipuref.Begins, slices.IndexFunc and slices.ContainsFunc answer of words of bits.
-/
import Derived.Test.YtglajpmifhecgaaEq
import Derived.Shelf.Abstract
namespace Go.Proofs.Ytglajpmifhecgaa
open Go.RowKit

theorem Bits.take {w : World} {x : Wd} (h : Bits w x) (n : Nat) : Bits w ⟨x.a, x.c, x.l.take n⟩ := by
  obtain ⟨h1, h2, h0, b, o, h3, h4⟩ := h
  refine ⟨by simp; omega, h2, h0, b, o, fun h => h3 (by simp at h; omega), fun i hi => ?_⟩
  have hi' : i < n ∧ i < x.l.length := by simp at hi; omega
  have := h4 i hi'.2
  simpa [List.getD_eq_getElem?_getD, List.getElem?_take, hi'.1] using this

theorem pre_false {l m : List Bool} (h : m.length < l.length) : l.isPrefixOf m = false := by
  rw [Bool.eq_false_iff]
  intro hp
  have := (List.isPrefixOf_iff_prefix.1 hp).length_le
  omega

theorem pre_eq (l m : List Bool) : l.isPrefixOf m = (l == m.take l.length) := by
  rw [Bool.eq_iff_iff, List.isPrefixOf_iff_prefix, List.prefix_iff_eq_take, beq_iff_eq]


theorem refBegins_any (x y : Wd) (w : World) (hx : Bits w x) (hy : Bits w y) :
    Calls Try.prog 21 #[x.v, y.v] w fun e w' => e = .returned (.bool (x.l.isPrefixOf y.l)) ∧ Qt w w' := by
  have hm1 := hx.1
  have hm2 := hx.2.1
  have hk1 := hy.1
  have hk2 := hy.2.1
  unfold maxLen at hm2 hk2
  by_cases hl : x.l.length ≤ y.l.length
  · have hc := bools_any x ⟨y.a, y.c, y.l.take x.l.length⟩ w hx (hy.take _)
    rw [← pre_eq] at hc
    have hv : (⟨y.a, y.c, y.l.take x.l.length⟩ : Wd).v = .slice y.a x.l.length y.c := by simp [Wd.v]; omega
    rw [hv] at hc
    obtain ⟨a, c, l⟩ := x
    obtain ⟨a', c', l'⟩ := y
    simp only [Wd.v] at *
    generalize l.isPrefixOf l' = r at hc
    generalize l.length = n at *
    generalize l'.length = m at *
    clear hv hx hy
    have hi : (n : Int) ≤ (m : Int) := by omega
    go_enter Try.func21, Try.ntmps21
    go_wp2_with (go_at_call 10; refine hc.mono ?_; rintro e w' ⟨rfl, hb⟩)
    go_ret
    exact ⟨rfl, hb⟩
  · rw [pre_false (by omega)]
    obtain ⟨a, c, l⟩ := x
    obtain ⟨a', c', l'⟩ := y
    simp only [Wd.v] at *
    generalize l.length = n at *
    generalize l'.length = m at *
    have hi : ¬ (n : Int) ≤ (m : Int) := by omega
    go_enter Try.func21, Try.ntmps21
    go_wp2
    go_ret
    exact ⟨rfl, Qt.refl w⟩


/-- A function value that answers p of each of the words, whatever has been laid since. -/
def PredOn (w : World) (f : Nat) (lb : Array Value) (p : Wd → Bool) (g : List Wd) : Prop :=
  ∀ (W : World) (x : Wd), x ∈ g → Ext w W → Calls Try.prog f (#[x.v] ++ lb) W fun e w' => e = .returned (.bool (p x)) ∧ Ext W w'

/-- The place of the first of which p holds, or -1. -/
def firstOf {α : Type} (p : α → Bool) (g : List α) : Int :=
  match g.findIdx? p with
  | some i => i
  | none => -1

theorem firstOf_hit {α : Type} (p : α → Bool) (g : List α) (k : Nat) (hk : k < g.length) (h : p g[k] = true) (h0 : ∀ j (hj : j < g.length), j < k → p g[j] = false) : firstOf p g = k := by
  have : g.findIdx? p = some k := by
    rw [List.findIdx?_eq_some_iff_getElem]
    exact ⟨hk, h, fun j hj => by rw [h0 j (by omega) hj]; decide⟩
  simp [firstOf, this]

theorem firstOf_miss {α : Type} (p : α → Bool) (g : List α) (h0 : ∀ j (hj : j < g.length), p g[j] = false) : firstOf p g = -1 := by
  have : g.findIdx? p = none := by
    rw [List.findIdx?_eq_none_iff]
    intro x hx
    obtain ⟨j, hj, rfl⟩ := List.mem_iff_getElem.1 hx
    exact h0 j hj
  simp [firstOf, this]

theorem firstOf_range {α : Type} (p : α → Bool) (g : List α) : -1 ≤ firstOf p g ∧ firstOf p g < g.length := by
  unfold firstOf
  split
  · rename_i i h
    have := (List.findIdx?_eq_some_iff_getElem.1 h).1
    omega
  · omega

theorem firstOf_any {α : Type} (p : α → Bool) (g : List α) : decide (0 ≤ firstOf p g) = g.any p := by
  unfold firstOf
  split
  · rename_i i h
    obtain ⟨h1, h2, _⟩ := List.findIdx?_eq_some_iff_getElem.1 h
    have : g.any p = true := List.any_eq_true.2 ⟨g[i], List.getElem_mem h1, h2⟩
    rw [this]; simp
  · rename_i h
    have : g.any p = false := List.any_eq_false.2 (fun x hx => by rw [List.findIdx?_eq_none_iff.1 h x hx]; decide)
    rw [this]; simp

set_option maxHeartbeats 400000 in
theorem index_any (a : Option Addr) (c : Nat) (g : List Wd) (f : Nat) (lb : Array Value) (p : Wd → Bool) (w : World)
    (eg : ∀ args w, (callFunc f args).run Try.prog w = .ok (.enter f args) w) (hg : Wds w a c g) (hp : PredOn w f lb p g) :
    Calls Try.prog 32 #[.slice a g.length c, .func (.func f) #[] lb] w fun e w' => e = .returned (.int .i64 (firstOf p g)) ∧ Ext w w' := by
  obtain ⟨h1, h2, h3, b, o, h4, h5⟩ := hg
  have H3 : Hid (∀ x ∈ g, Bits w x) := h3
  clear h3
  unfold maxLen at h2
  have L : ∃ n, g.length = n := ⟨_, rfl⟩
  obtain ⟨n, hn⟩ := L
  have HN : Hid (g.length = n) := hn
  rw [hn] at h1 h4 ⊢
  clear hn
  have H5 : Hid (∀ i (h : i < g.length), w.cell? ⟨b, o + i, none⟩ = some (g[i].v)) := h5
  have HP : Hid (PredOn w f lb p g) := hp
  clear h5 hp
  go_enter Try.func32, Try.ntmps32
  go_wp2
  go_loopg [5, 8] n (fun gg _ s8 wr => ∃ k : Nat, k ≤ n ∧ n - k ≤ gg ∧ s8 = .int .i64 k ∧ Aside (Ext w wr) ∧ Aside (∀ j (hj : j < g.length), j < k → p g[j] = false))
  case atStart => exact ⟨0, Nat.zero_le _, by omega, rfl, Ext.refl w, fun j hj h => absurd h (Nat.not_lt_zero _)⟩
  case round =>
    obtain ⟨k, hk, hgg, rfl, BW, A⟩ := hrel
    by_cases hlt : k < n
    · have hltz : (k : Int) < (n : Int) := by omega
      obtain rfl := h4 (by omega)
      have hkl : k < g.length := by rw [HN.out]; exact hlt
      have e1 := BW.out.cell (H5.out k hkl)
      have hcall := HP.out wr g[k] (List.getElem_mem hkl) BW.out
      have hit : Aside (p g[k] = true → firstOf p g = k) := fun h => firstOf_hit p g k hkl h A.out
      have miss : Aside (p g[k] = false → ∀ j (hj : j < g.length), j < k + 1 → p g[j] = false) := fun h j hj hj' => by
        rcases Nat.lt_succ_iff_lt_or_eq.1 hj' with h' | rfl
        · exact A.out j hj h'
        · exact h
      generalize hy : g[k] = y at e1 hcall hit miss
      clear h4 hy
      cases hq : p y with
      | true =>
        rw [hq] at hcall
        have hf : Hid (firstOf p g = k) := hit.out hq
        clear hq hit miss
        go_wp2_with (go_at_fn f; refine hcall.mono ?_; rintro e w' ⟨rfl, hb'⟩)
        go_ret
        exact ⟨ret_int hf.out.symm, BW.out.trans hb'⟩
      | false =>
        rw [hq] at hcall
        have hf : Aside (∀ j (hj : j < g.length), j < k + 1 → p g[j] = false) := miss.out hq
        clear hq hit miss
        go_wp2_with (go_at_fn f; refine hcall.mono ?_; rintro e w' ⟨rfl, hb'⟩)
        go_roundg (n - (k + 1))
        case measure => omega
        case rel => exact ⟨k + 1, by omega, by omega, by go_num, BW.out.trans hb', hf.out⟩
    · have hm : Aside (firstOf p g = -1) := firstOf_miss p g (fun j hj => A.out j hj (by have := HN.out; omega))
      go_wp2
      go_ret
      exact ⟨ret_int hm.out.symm, BW.out⟩

set_option maxHeartbeats 400000 in
theorem contains_any (a : Option Addr) (c : Nat) (g : List Wd) (f : Nat) (lb : Array Value) (p : Wd → Bool) (w : World)
    (eg : ∀ args w, (callFunc f args).run Try.prog w = .ok (.enter f args) w) (hg : Wds w a c g) (hp : PredOn w f lb p g) :
    Calls Try.prog 28 #[.slice a g.length c, .func (.func f) #[] lb] w fun e w' => e = .returned (.bool (g.any p)) ∧ Ext w w' := by
  have hc := index_any a c g f lb p w eg hg hp
  rw [← firstOf_any]
  clear hg hp eg
  generalize g.length = n at *
  generalize firstOf p g = r at *
  go_enter Try.func28, Try.ntmps28
  go_wp2_with (go_at_call 32; refine hc.mono ?_; rintro e w' ⟨rfl, hb⟩)
  go_ret
  exact ⟨rfl, hb⟩

end Go.Proofs.Ytglajpmifhecgaa
