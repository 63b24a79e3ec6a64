/-
  slices.Index and slices.Contains of words; book.Check; quipuref.BookCheck.
-/
import Derived.Test.YtdfjjjcaibadoabCw
import Derived.Test.YtdfjjjcaibadoabBp
namespace Go.Proofs.Ytdfjjjcaibadoab
open Go.RowKit

theorem getD_at {g : List Nat} {i : Nat} (h : i < g.length) : g[i]'h = g.getD i 0 := (getD_get h).symm

/-- slices.Index of words: whether one is the same. -/
theorem idx_any (a : Option Addr) (n c : Nat) (g : List Nat) (q : Nat) (b o : Nat) (w : World) (hn : n ≤ 1000) (ha : 0 < n → a = some ⟨b, o, none⟩)
    (hc : ∀ i, i < n → w.cell? ⟨b, o + i, none⟩ = some (.int .u32 (g.getD i 0 : Nat))) :
    Calls Try.prog 52 #[.slice a n c, .int .u32 (q : Nat)] w fun e w' => (∃ r : Int, e = .returned (.int .i64 r) ∧ (0 ≤ r ↔ ∃ i, i < n ∧ g.getD i 0 = q)) ∧ w' = w := by
  have HC : Hid (∀ i, i < n → w.cell? ⟨b, o + i, none⟩ = some (.int .u32 (g.getD i 0 : Nat))) := hc
  clear hc
  go_enter Try.func52, Try.ntmps52
  go_wp2
  go_loopg [5, 8] n (fun gg _ s wr => ∃ k : Nat, k ≤ n ∧ n - k ≤ gg ∧ s = .int .i64 k ∧ Aside (∀ i, i < k → g.getD i 0 ≠ q) ∧ wr = w)
  case atStart => exact ⟨0, Nat.zero_le _, by omega, rfl, fun i hi => absurd hi (Nat.not_lt_zero _), rfl⟩
  case round =>
    obtain ⟨k, hk, hgg, rfl, A, rfl⟩ := hrel
    by_cases hlt : k < n
    · have hltz : (k : Int) < (n : Int) := by omega
      obtain rfl := ha (by omega)
      have e1 := HC.out k hlt
      have fin : Aside (g.getD k 0 = q → ∃ i, i < n ∧ g.getD i 0 = q) := fun h => ⟨k, hlt, h⟩
      have go : Aside (g.getD k 0 ≠ q → ∀ i, i < k + 1 → g.getD i 0 ≠ q) := fun h i hi => by
        rcases Nat.lt_succ_iff_lt_or_eq.1 hi with h' | rfl
        · exact A.out i h'
        · exact h
      generalize g.getD k 0 = y at *
      clear ha
      by_cases h : y = q
      · have hz : ((q : Int) == (y : Int)) = true := by rw [h]; exact beq_self_eq_true _
        have f := fin.out h
        have F : Aside (∃ i, i < n ∧ g.getD i 0 = q) := f
        clear fin go f h
        go_wp2
        go_ret
        exact ⟨⟨_, rfl, fun _ => F.out, fun _ => by omega⟩, rfl⟩
      · have hz : ((q : Int) == (y : Int)) = false := by rw [beq_eq_false_iff_ne]; omega
        have f := go.out h
        have F : Aside (∀ i, i < k + 1 → g.getD i 0 ≠ q) := f
        clear fin go f h
        go_wp2
        go_roundg (n - (k + 1))
        case measure => omega
        case rel => exact ⟨k + 1, by omega, by omega, by go_num, F.out, rfl⟩
    · have F : Aside (¬ ∃ i, i < n ∧ g.getD i 0 = q) := fun ⟨i, hi, h⟩ => A.out i (by omega) h
      go_wp2
      go_ret
      exact ⟨⟨-1, rfl, fun h => by omega, fun h => absurd h F.out⟩, rfl⟩

theorem has_any (a : Option Addr) (n c : Nat) (g : List Nat) (q : Nat) (b o : Nat) (w : World) (hn : n ≤ 1000) (ha : 0 < n → a = some ⟨b, o, none⟩)
    (hc : ∀ i, i < n → w.cell? ⟨b, o + i, none⟩ = some (.int .u32 (g.getD i 0 : Nat))) :
    Calls Try.prog 46 #[.slice a n c, .int .u32 (q : Nat)] w fun e w' => (∃ r : Bool, e = .returned (.bool r) ∧ (r = true ↔ ∃ i, i < n ∧ g.getD i 0 = q)) ∧ w' = w := by
  have c1 := idx_any a n c g q b o w hn ha hc
  clear ha hc
  go_enter Try.func46, Try.ntmps46
  go_wp2_with fail
  refine c1.mono ?_
  rintro e w' ⟨⟨r, rfl, hr⟩, rfl⟩
  have HR : Aside (0 ≤ r ↔ ∃ i, i < n ∧ g.getD i 0 = q) := hr
  clear c1 hr
  go_wp2
  go_ret
  exact ⟨⟨_, rfl, by rw [decide_eq_true_iff]; exact HR.out⟩, rfl⟩

theorem mem_take_getD {g : List Nat} {k q : Nat} (hk : k ≤ g.length) : (∃ i, i < k ∧ g.getD i 0 = q) ↔ q ∈ g.take k := by
  rw [List.mem_take_iff_getElem]
  constructor
  · rintro ⟨i, hi, h⟩
    exact ⟨i, by omega, by rw [← h, getD_get (by omega)]⟩
  · rintro ⟨i, hi, h⟩
    exact ⟨i, by omega, by rw [← h, getD_get (by omega)]⟩

theorem bookOut_any (n : Int) (x : Um) (h : ¬ ((0 ≤ n ∧ n ≤ 12) ∧ x.z.length ≤ 64)) (hx : x.z.length ≤ maxLen) (w : World) : Calls Try.prog 34 #[.int .i64 n, x.v] w fun e w' => e = .returned (.int .i64 1) ∧ Ext w w' := by
  have c1 := checkNone_any n w
  obtain ⟨a, c, g⟩ := x
  simp only at h hx
  unfold maxLen at hx
  simp only [Um.v]
  generalize g.length = l at *
  by_cases hn : 0 ≤ n ∧ n ≤ 12
  · have hl : (l : Int) > 64 := by omega
    obtain ⟨m, rfl⟩ : ∃ m : Nat, n = m := ⟨n.toNat, by omega⟩
    rw [ce_good (by omega) (fun x hx => by cases hx)] at c1
    clear h
    go_enter Try.func34, Try.ntmps34
    go_wp2_with fail
    refine c1.mono ?_
    rintro e w' ⟨rfl, rfl⟩
    clear c1
    go_wp2
    go_ret
    exact ⟨rfl, Ext.refl _⟩
  · rw [ce_out hn] at c1
    clear h
    go_enter Try.func34, Try.ntmps34
    go_wp2_with fail
    refine c1.mono ?_
    rintro e w' ⟨rfl, rfl⟩
    clear c1
    go_wp2
    go_ret
    exact ⟨rfl, Ext.refl _⟩

theorem bookIn_any (n : Nat) (hn : n ≤ 12) (x : Um) (hl : x.z.length ≤ 64) (hb : ∀ y ∈ x.z, y < 4294967296) (w : World) (hx : Us w x) : Calls Try.prog 34 #[.int .i64 n, x.v] w fun e w' => e = .returned (.int .i64 (bk (2 ^ n) x.z)) ∧ Ext w w' := by
  have c1 := checkNone_any n w
  rw [ce_good (by omega) (fun x hx => by cases hx)] at c1
  obtain ⟨a, c, g⟩ := x
  obtain ⟨h1, h2, _, b, o, h4, h5⟩ := hx
  simp only at hl hb h1 h2 h4 h5
  simp only [Um.v]
  unfold maxLen at h2
  have H5 : Hid (∀ i, i < g.length → w.cell? ⟨b, o + i, none⟩ = some (.int .u32 (g.getD i 0 : Nat))) := h5
  have CW : Hid (∀ (q : Nat) W, q < 4294967296 → Calls Try.prog 40 #[.int .i64 n, .slice (some ⟨W.heap.size, 0, none⟩) 1 1] (W.alloc (.cells #[.int .u32 (q : Nat)] 30)) fun e w' => e = .returned (.int .i64 (if q < 2 ^ n then 0 else 4)) ∧ Ext W w') := fun q W hq => by
    have c := checkWords_any n [q] (by simp) (fun x hx => by simp at hx; omega) W.heap.size 1 _ (heap_alloc_new W (.cells #[.int .u32 (q : Nat)] 30))
    rw [ce_nat hn] at c
    refine c.mono ?_
    rintro e w' ⟨rfl, rfl⟩
    exact ⟨by simp, (Ext.refl W).alloc _⟩
  have HB : Hid (∀ i, i < g.length → g.getD i 0 < 4294967296) := fun i hi => by rw [getD_get hi]; exact hb _ (List.getElem_mem hi)
  have HS : Hid (∀ (k : Nat) W, k < g.length → Ext w W → Calls Try.prog 46 #[.slice a k c, .int .u32 (g.getD k 0 : Nat)] W fun e w' => (∃ r : Bool, e = .returned (.bool r) ∧ (r = true ↔ g.getD k 0 ∈ g.take k)) ∧ w' = W) := fun k W hk E => by
    have c := has_any a k c g (g.getD k 0) b o W (by omega) (fun h => h4 (by omega)) (fun i hi => E.cell (h5 i (by omega)))
    rw [mem_take_getD (by omega)] at c
    exact c
  have hit : Hid (∀ k, k < g.length → flt (2 ^ n) g k ≠ 0 → (∀ j, j < k → flt (2 ^ n) g j = 0) → bk (2 ^ n) g = flt (2 ^ n) g k) := fun k hk h h0 => bk_hit hk h h0
  have miss : Hid ((∀ j, j < g.length → flt (2 ^ n) g j = 0) → bk (2 ^ n) g = 0) := bk_miss
  have df : Hid (∀ k, flt (2 ^ n) g k = if 2 ^ n ≤ g.getD k 0 then 4 else if g.getD k 0 ∈ g.take k then 3 else 0) := fun k => rfl
  generalize bk (2 ^ n) g = R at *
  generalize 2 ^ n = M at *
  clear h5 hb
  have L : ∃ m, g.length = m := ⟨_, rfl⟩
  obtain ⟨m, hm⟩ := L
  rw [hm] at hl h1 h4 H5 HB HS hit miss ⊢
  clear hm
  go_enter Try.func34, Try.ntmps34
  go_wp2_with fail
  refine c1.mono ?_
  rintro e w' ⟨rfl, rfl⟩
  clear c1
  go_wp2
  go_loopg [6, 7, 8, 19] m (fun gg _ _ _ s wr => ∃ k : Nat, k ≤ m ∧ m - k ≤ gg ∧ s = .int .i64 k ∧ Aside (∀ j, j < k → flt M g j = 0) ∧ Aside (Ext w' wr))
  case atStart => exact ⟨0, Nat.zero_le _, by omega, rfl, fun i hi => absurd hi (Nat.not_lt_zero _), Ext.refl _⟩
  case round =>
    obtain ⟨k, hk, hgg, rfl, A, BW⟩ := hrel
    by_cases hlt : k < m
    · have hltz : (k : Int) < (m : Int) := by omega
      have hkc : (k : Int) ≤ (c : Int) := by omega
      have e1 := BW.out.cell (H5.out k hlt)
      have q1 := HB.out k hlt
      have cw := CW.out (g.getD k 0) wr q1
      have cs : Hid (∀ W, Ext wr W → Calls Try.prog 46 #[.slice a k c, .int .u32 (g.getD k 0 : Nat)] W fun e w' => (∃ r : Bool, e = .returned (.bool r) ∧ (r = true ↔ g.getD k 0 ∈ g.take k)) ∧ w' = W) := fun W E => HS.out k W hlt (BW.out.trans E)
      have ht : Hid (flt M g k ≠ 0 → R = flt M g k) := fun h => hit.out k hlt h A.out
      have go : Hid (flt M g k = 0 → ∀ j, j < k + 1 → flt M g j = 0) := fun h i hi => by
        rcases Nat.lt_succ_iff_lt_or_eq.1 hi with h' | rfl
        · exact A.out i h'
        · exact h
      have d1 := df.out k
      obtain rfl := h4 (by omega)
      clear h4 H5 HB HS hit miss df CW
      generalize g.getD k 0 = y at *
      generalize g.take k = tk at *
      generalize flt M g k = F at *
      rcases Nat.lt_or_ge y M with h | h
      · rw [if_neg (by omega)] at d1
        rw [if_pos h] at cw
        go_wp2_with fail
        refine cw.mono ?_
        rintro e w2 ⟨rfl, E2⟩
        have cs2 := cs.out w2 E2
        have X2 : Aside (Ext w' w2) := BW.out.trans E2
        clear cs cw E2
        go_wp2_with fail
        refine cs2.mono ?_
        rintro e w3 ⟨⟨r, rfl, hr⟩, rfl⟩
        clear cs2
        cases r with
        | true =>
          rw [if_pos (hr.1 rfl)] at d1
          have e := ht.out (by omega)
          rw [d1] at e
          clear hr ht go d1
          go_wp2
          go_ret
          exact ⟨by rw [e]; rfl, X2.out⟩
        | false =>
          rw [if_neg (fun h => by have := hr.2 h; cases this)] at d1
          have f := go.out d1
          have G : Aside (∀ j, j < k + 1 → flt M g j = 0) := f
          clear hr ht go d1 f
          go_wp2
          go_roundg (m - (k + 1))
          case measure => omega
          case rel => exact ⟨k + 1, by omega, by omega, by go_num, G.out, X2.out⟩
      · rw [if_pos h] at d1
        rw [if_neg (by omega)] at cw
        have e := ht.out (by omega)
        rw [d1] at e
        clear cs ht go d1
        go_wp2_with fail
        refine cw.mono ?_
        rintro e' w2 ⟨rfl, E2⟩
        have X2 : Aside (Ext w' w2) := BW.out.trans E2
        clear cw E2
        go_wp2
        go_ret
        exact ⟨by rw [e]; rfl, X2.out⟩
    · have e := miss.out (fun j hj => A.out j (by omega))
      clear CW H5 HB HS hit miss df
      go_wp2
      go_ret
      exact ⟨by rw [e]; rfl, BW.out⟩

theorem book_any (n : Int) (x : Um) (hb : ∀ y ∈ x.z, y < 4294967296) (w : World) (hx : Us w x) : Calls Try.prog 34 #[.int .i64 n, x.v] w fun e w' => e = .returned (.int .i64 (bke n x.z)) ∧ Ext w w' := by
  by_cases h : (0 ≤ n ∧ n ≤ 12) ∧ x.z.length ≤ 64
  · obtain ⟨m, rfl⟩ : ∃ m : Nat, n = m := ⟨n.toNat, by omega⟩
    rw [bke_nat (by omega) h.2]
    exact bookIn_any m (by omega) x h.2 hb w hx
  · rw [bke_out h]
    exact bookOut_any n x h (Nat.le_trans hx.1 hx.2.1) w

end Go.Proofs.Ytdfjjjcaibadoab
