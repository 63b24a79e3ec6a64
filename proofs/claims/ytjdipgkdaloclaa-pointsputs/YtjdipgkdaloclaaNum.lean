/-
  Lists of numbers: what slices.IndexFunc, slices.ContainsFunc, slices.Index and quipuref.Ints answer of them.
-/
import Derived.Test.YtjdipgkdaloclaaChecked
import Derived.Test.YtjdipgkdaloclaaOwn
import Derived.Shelf.Abstract
namespace Go.Proofs.Ytjdipgkdaloclaa
open Go.RowKit

/-- The place of the first that p says yes of, or -1. -/
def firstOf {α : Type} (p : α → Bool) (g : List α) : Int :=
  match g.findIdx? p with
  | some i => i
  | none => -1

theorem firstOf_hit {α : Type} (p : α → Bool) (g : List α) (k : Nat) (hk : k < g.length) (h : p g[k] = true) (h0 : ∀ j (hj : j < g.length), j < k → p g[j] = false) : firstOf p g = k := by
  have : g.findIdx? p = some k := by
    rw [List.findIdx?_eq_some_iff_getElem]
    exact ⟨hk, h, fun j hj => by rw [h0 j (by omega) hj]; decide⟩
  simp [firstOf, this]

theorem firstOf_miss {α : Type} (p : α → Bool) (g : List α) (h0 : ∀ j (hj : j < g.length), p g[j] = false) : firstOf p g = -1 := by
  have : g.findIdx? p = none := by
    rw [List.findIdx?_eq_none_iff]
    intro x hx
    obtain ⟨j, hj, rfl⟩ := List.mem_iff_getElem.1 hx
    exact h0 j hj
  simp [firstOf, this]

theorem firstOf_range {α : Type} (p : α → Bool) (g : List α) : -1 ≤ firstOf p g ∧ firstOf p g < g.length := by
  unfold firstOf
  split
  · rename_i i h
    have := (List.findIdx?_eq_some_iff_getElem.1 h).1
    omega
  · omega

theorem firstOf_any {α : Type} (p : α → Bool) (g : List α) : decide (0 ≤ firstOf p g) = g.any p := by
  unfold firstOf
  split
  · rename_i i h
    obtain ⟨h1, h2, _⟩ := List.findIdx?_eq_some_iff_getElem.1 h
    have : g.any p = true := List.any_eq_true.2 ⟨g[i], List.getElem_mem h1, h2⟩
    rw [this]; simp
  · rename_i h
    have : g.any p = false := List.any_eq_false.2 (fun x hx => by rw [List.findIdx?_eq_none_iff.1 h x hx]; decide)
    rw [this]; simp

/-- A function value that answers p of each of the numbers, whatever has been laid since. -/
def PredInt (w : World) (f : Nat) (lb : Array Value) (p : Int → Bool) (g : List Int) : Prop :=
  ∀ (W : World) (x : Int), x ∈ g → Ext w W → Calls Try.prog f (#[.int .i64 x] ++ lb) W fun e w' => e = .returned (.bool (p x)) ∧ Ext W w'

set_option maxHeartbeats 400000 in
theorem indexN_any (a : Option Addr) (c : Nat) (g : List Int) (f : Nat) (lb : Array Value) (p : Int → Bool) (w : World)
    (eg : ∀ args w, (callFunc f args).run Try.prog w = .ok (.enter f args) w) (hg : Nums w ⟨a, c, g⟩) (hp : PredInt w f lb p g) :
    Calls Try.prog 34 #[.slice a g.length c, .func (.func f) #[] lb] w fun e w' => e = .returned (.int .i64 (firstOf p g)) ∧ Ext w w' := by
  obtain ⟨h1, h2, _, b, o, h4, h5'⟩ := hg
  simp only at h1 h2 h4 h5'
  have h5 : ∀ i (h : i < g.length), w.cell? ⟨b, o + i, none⟩ = some (.int .i64 g[i]) := fun i h => by
    have := h5' i h
    rwa [List.getD_eq_getElem?_getD, List.getElem?_eq_getElem h] at this
  clear h5'
  unfold maxLen at h2
  have L : ∃ n, g.length = n := ⟨_, rfl⟩
  obtain ⟨n, hn⟩ := L
  have HN : Hid (g.length = n) := hn
  rw [hn] at h1 h4 ⊢
  clear hn
  have H5 : Hid (∀ i (h : i < g.length), w.cell? ⟨b, o + i, none⟩ = some (.int .i64 g[i])) := h5
  have HP : Hid (PredInt w f lb p g) := hp
  clear h5 hp
  go_enter Try.func34, Try.ntmps34
  go_wp2
  go_loopg [5, 8] n (fun gg _ s8 wr => ∃ k : Nat, k ≤ n ∧ n - k ≤ gg ∧ s8 = .int .i64 k ∧ Aside (Ext w wr) ∧ Aside (∀ j (hj : j < g.length), j < k → p g[j] = false))
  case atStart => exact ⟨0, Nat.zero_le _, by omega, rfl, Ext.refl w, fun j hj h => absurd h (Nat.not_lt_zero _)⟩
  case round =>
    obtain ⟨k, hk, hgg, rfl, BW, A⟩ := hrel
    by_cases hlt : k < n
    · have hltz : (k : Int) < (n : Int) := by omega
      obtain rfl := h4 (by omega)
      have hkl : k < g.length := by rw [HN.out]; exact hlt
      have e1 := BW.out.cell (H5.out k hkl)
      have hcall := HP.out wr g[k] (List.getElem_mem hkl) BW.out
      have hit : Aside (p g[k] = true → firstOf p g = k) := fun h => firstOf_hit p g k hkl h A.out
      have miss : Aside (p g[k] = false → ∀ j (hj : j < g.length), j < k + 1 → p g[j] = false) := fun h j hj hj' => by
        rcases Nat.lt_succ_iff_lt_or_eq.1 hj' with h' | rfl
        · exact A.out j hj h'
        · exact h
      generalize hy : g[k] = y at e1 hcall hit miss
      clear h4 hy
      cases hq : p y with
      | true =>
        rw [hq] at hcall
        have hf : Hid (firstOf p g = k) := hit.out hq
        clear hq hit miss
        go_wp2_with (go_at_fn f; refine hcall.mono ?_; rintro e w' ⟨rfl, hb'⟩)
        go_ret
        exact ⟨ret_int hf.out.symm, BW.out.trans hb'⟩
      | false =>
        rw [hq] at hcall
        have hf : Aside (∀ j (hj : j < g.length), j < k + 1 → p g[j] = false) := miss.out hq
        clear hq hit miss
        go_wp2_with (go_at_fn f; refine hcall.mono ?_; rintro e w' ⟨rfl, hb'⟩)
        go_roundg (n - (k + 1))
        case measure => omega
        case rel => exact ⟨k + 1, by omega, by omega, by go_num, BW.out.trans hb', hf.out⟩
    · have hm : Aside (firstOf p g = -1) := firstOf_miss p g (fun j hj => A.out j hj (by have := HN.out; omega))
      go_wp2
      go_ret
      exact ⟨ret_int hm.out.symm, BW.out⟩

set_option maxHeartbeats 400000 in
theorem containsN_any (a : Option Addr) (c : Nat) (g : List Int) (f : Nat) (lb : Array Value) (p : Int → Bool) (w : World)
    (eg : ∀ args w, (callFunc f args).run Try.prog w = .ok (.enter f args) w) (hg : Nums w ⟨a, c, g⟩) (hp : PredInt w f lb p g) :
    Calls Try.prog 23 #[.slice a g.length c, .func (.func f) #[] lb] w fun e w' => e = .returned (.bool (g.any p)) ∧ Ext w w' := by
  have hc := indexN_any a c g f lb p w eg hg hp
  rw [← firstOf_any]
  clear hg hp eg
  generalize g.length = n at *
  generalize firstOf p g = r at *
  go_enter Try.func23, Try.ntmps23
  go_wp2_with (go_at_call 34; refine hc.mono ?_; rintro e w' ⟨rfl, hb⟩)
  go_ret
  exact ⟨rfl, hb⟩


set_option maxHeartbeats 400000 in
theorem ints_cells (a1 a2 : Option Addr) (n c1 c2 b1 o1 b2 o2 : Nat) (B1 B2 : Nat → Int) (w : World) (hn : n ≤ maxLen)
    (h1 : 0 < n → a1 = some ⟨b1, o1, none⟩) (h2 : 0 < n → a2 = some ⟨b2, o2, none⟩)
    (d1 : ∀ i, i < n → w.cell? ⟨b1, o1 + i, none⟩ = some (.int .i64 (B1 i))) (d2 : ∀ i, i < n → w.cell? ⟨b2, o2 + i, none⟩ = some (.int .i64 (B2 i))) :
    Calls Try.prog 9 #[.slice a1 n c1, .slice a2 n c2] w fun e w' => (∃ r : Bool, e = .returned (.bool r) ∧ (r = true ↔ ∀ i, i < n → B1 i = B2 i)) ∧ Qt w w' := by
  unfold maxLen at hn
  go_enter Try.func9, Try.ntmps9
  go_wp2
  go_loopg [5] n (fun gg s wr => ∃ k : Nat, k ≤ n ∧ n - k ≤ gg ∧ s = .int .i64 k ∧ Aside (Qt w wr) ∧ Aside (∀ i, i < k → B1 i = B2 i))
  case atStart => exact ⟨0, Nat.zero_le _, by omega, rfl, Qt.refl w, fun j hj => absurd hj (Nat.not_lt_zero _)⟩
  case round =>
    obtain ⟨k, hk, hg, rfl, BW, A⟩ := hrel
    by_cases hlt : k < n
    · have hltz : (k : Int) < (n : Int) := by omega
      obtain rfl := h1 (by omega)
      obtain rfl := h2 (by omega)
      have e1 := BW.out.cell (d1 k hlt)
      have e2 := BW.out.cell (d2 k hlt)
      clear h1 h2 d1 d2
      generalize hy1 : B1 k = y1 at e1
      generalize hy2 : B2 k = y2 at e2
      have Y : Aside (B1 k = y1 ∧ B2 k = y2) := ⟨hy1, hy2⟩
      clear hy1 hy2
      have fin : Aside (y1 ≠ y2 → ¬ ∀ i, i < n → B1 i = B2 i) := fun h h' => h (by rw [← Y.out.1, ← Y.out.2]; exact h' k hlt)
      have go : Aside (y1 = y2 → ∀ i, i < k + 1 → B1 i = B2 i) := fun h i hi => by
        rcases Nat.lt_succ_iff_lt_or_eq.1 hi with h' | rfl
        · exact A.out i h'
        · rw [Y.out.1, Y.out.2, h]
      cases hq : (y1 == y2)
      all_goals
        have hq' : (y1 != y2) = !(y1 == y2) := rfl
        rw [hq] at hq'
        simp only [Bool.not_true, Bool.not_false] at hq'
      · have fin' : Aside (¬ ∀ i, i < n → B1 i = B2 i) := fin.out (fun h => by rw [h] at hq; simp at hq)
        clear fin go hq Y
        go_wp2
        go_quiet (fail)
        go_wp2
        go_ret
        refine ⟨⟨false, rfl, ⟨fun h => ?_, fun h => ?_⟩⟩, BW.out.drewN _⟩
        · cases h
        · exact absurd h fin'.out
      · have go' : Aside (∀ i, i < k + 1 → B1 i = B2 i) := go.out (beq_iff_eq.1 hq)
        clear fin go hq Y
        go_wp2
        go_quiet (fail)
        go_wp2
        go_roundg (n - (k + 1))
        case measure => omega
        case rel => exact ⟨k + 1, by omega, by omega, by go_num, BW.out.drewN _, go'.out⟩
    · go_wp2
      go_ret
      exact ⟨⟨true, rfl, ⟨fun _ i hi => A.out i (by omega), fun _ => rfl⟩⟩, BW.out⟩



theorem getD_eq_iffN (l m : List Int) (h : l.length = m.length) : l = m ↔ ∀ i, i < l.length → l.getD i 0 = m.getD i 0 := by
  constructor
  · intro e i _; rw [e]
  · intro e
    apply List.ext_getElem h
    intro i h1 h2
    have := e i h1
    simpa [List.getD_eq_getElem?_getD, h1, h2] using this

set_option maxHeartbeats 400000 in
theorem ints_ne (a1 a2 : Option Addr) (n1 n2 c1 c2 : Nat) (w : World) (hne : ((n1 : Int) == (n2 : Int)) = false) :
    Calls Try.prog 9 #[.slice a1 n1 c1, .slice a2 n2 c2] w fun e w' => e = .returned (.bool false) ∧ Qt w w' := by
  go_enter Try.func9, Try.ntmps9
  go_wp2
  go_ret
  exact ⟨rfl, Qt.refl w⟩

theorem ints_any (x y : Nm) (w : World) (hx : Nums w x) (hy : Nums w y) :
    Calls Try.prog 9 #[x.v, y.v] w fun e w' => e = .returned (.bool (x.z == y.z)) ∧ Qt w w' := by
  by_cases hl : x.z.length = y.z.length
  · obtain ⟨h1, h2, _, b1, o1, h3, h4⟩ := hx
    obtain ⟨k1, k2, _, b2, o2, k3, k4⟩ := hy
    have hv : y.v = .slice y.a x.z.length y.c := by rw [hl]
    rw [hv]
    rw [← hl] at k3 k4
    refine (ints_cells x.a y.a x.z.length x.c y.c b1 o1 b2 o2 (fun i => x.z.getD i 0) (fun i => y.z.getD i 0) w (by omega) h3 k3 h4 k4).mono ?_
    rintro e w' ⟨⟨r, rfl, hr⟩, hb⟩
    refine ⟨?_, hb⟩
    have : r = (x.z == y.z) := by
      rw [Bool.eq_iff_iff, hr, beq_iff_eq]
      exact (getD_eq_iffN _ _ hl).symm
    rw [this]
  · refine (ints_ne x.a y.a x.z.length y.z.length x.c y.c w (beq_eq_false_iff_ne.2 (by omega))).mono ?_
    rintro e w' ⟨rfl, hb⟩
    refine ⟨?_, hb⟩
    have : (x.z == y.z) = false := beq_eq_false_iff_ne.2 (fun h => hl (by rw [h]))
    rw [this]


end Go.Proofs.Ytjdipgkdaloclaa
