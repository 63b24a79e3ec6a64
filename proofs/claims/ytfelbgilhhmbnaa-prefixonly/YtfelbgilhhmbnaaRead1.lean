/-
  What quipuref.Ints, prefix.checkReadable, quipukeep.bare, quipukeep.coded and the closure of prefix.Read answer.
-/
import Derived.Test.YtfelbgilhhmbnaaRefPrefix
import Derived.Test.YtfelbgilhhmbnaaWrite2
namespace Go.Proofs.Ytfelbgilhhmbnaa
open Go.RowKit

set_option maxHeartbeats 400000 in
theorem ints_cells (a1 a2 : Option Addr) (n c1 c2 b1 o1 b2 o2 : Nat) (B1 B2 : Nat → Int) (w : World) (hn : n ≤ maxLen)
    (h1 : 0 < n → a1 = some ⟨b1, o1, none⟩) (h2 : 0 < n → a2 = some ⟨b2, o2, none⟩)
    (d1 : ∀ i, i < n → w.cell? ⟨b1, o1 + i, none⟩ = some (.int .i64 (B1 i))) (d2 : ∀ i, i < n → w.cell? ⟨b2, o2 + i, none⟩ = some (.int .i64 (B2 i))) :
    Calls Try.prog 15 #[.slice a1 n c1, .slice a2 n c2] w fun e w' => (∃ r : Bool, e = .returned (.bool r) ∧ (r = true ↔ ∀ i, i < n → B1 i = B2 i)) ∧ Qt w w' := by
  unfold maxLen at hn
  go_enter Try.func15, Try.ntmps15
  go_wp2
  go_loopg [5] n (fun gg s wr => ∃ k : Nat, k ≤ n ∧ n - k ≤ gg ∧ s = .int .i64 k ∧ Aside (Qt w wr) ∧ Aside (∀ i, i < k → B1 i = B2 i))
  case atStart => exact ⟨0, Nat.zero_le _, by omega, rfl, Qt.refl w, fun j hj => absurd hj (Nat.not_lt_zero _)⟩
  case round =>
    obtain ⟨k, hk, hg, rfl, BW, A⟩ := hrel
    by_cases hlt : k < n
    · have hltz : (k : Int) < (n : Int) := by omega
      obtain rfl := h1 (by omega)
      obtain rfl := h2 (by omega)
      have e1 := BW.out.cell (d1 k hlt)
      have e2 := BW.out.cell (d2 k hlt)
      clear h1 h2 d1 d2
      generalize hy1 : B1 k = y1 at e1
      generalize hy2 : B2 k = y2 at e2
      have Y : Aside (B1 k = y1 ∧ B2 k = y2) := ⟨hy1, hy2⟩
      clear hy1 hy2
      have fin : Aside (y1 ≠ y2 → ¬ ∀ i, i < n → B1 i = B2 i) := fun h h' => h (by rw [← Y.out.1, ← Y.out.2]; exact h' k hlt)
      have go : Aside (y1 = y2 → ∀ i, i < k + 1 → B1 i = B2 i) := fun h i hi => by
        rcases Nat.lt_succ_iff_lt_or_eq.1 hi with h' | rfl
        · exact A.out i h'
        · rw [Y.out.1, Y.out.2, h]
      cases hq : (y1 == y2)
      all_goals
        have hq' : (y1 != y2) = !(y1 == y2) := rfl
        rw [hq] at hq'
        simp only [Bool.not_true, Bool.not_false] at hq'
      · have fin' : Aside (¬ ∀ i, i < n → B1 i = B2 i) := fin.out (fun h => by rw [h] at hq; simp at hq)
        clear fin go hq Y
        go_wp2
        go_quiet (fail)
        go_wp2
        go_ret
        refine ⟨⟨false, rfl, ⟨fun h => ?_, fun h => ?_⟩⟩, BW.out.drewN _⟩
        · cases h
        · exact absurd h fin'.out
      · have go' : Aside (∀ i, i < k + 1 → B1 i = B2 i) := go.out (beq_iff_eq.1 hq)
        clear fin go hq Y
        go_wp2
        go_quiet (fail)
        go_wp2
        go_roundg (n - (k + 1))
        case measure => omega
        case rel => exact ⟨k + 1, by omega, by omega, by go_num, BW.out.drewN _, go'.out⟩
    · go_wp2
      go_ret
      exact ⟨⟨true, rfl, ⟨fun _ i hi => A.out i (by omega), fun _ => rfl⟩⟩, BW.out⟩



theorem getD_eq_iffN (l m : List Int) (h : l.length = m.length) : l = m ↔ ∀ i, i < l.length → l.getD i 0 = m.getD i 0 := by
  constructor
  · intro e i _; rw [e]
  · intro e
    apply List.ext_getElem h
    intro i h1 h2
    have := e i h1
    simpa [List.getD_eq_getElem?_getD, h1, h2] using this

set_option maxHeartbeats 400000 in
theorem ints_ne (a1 a2 : Option Addr) (n1 n2 c1 c2 : Nat) (w : World) (hne : ((n1 : Int) == (n2 : Int)) = false) :
    Calls Try.prog 15 #[.slice a1 n1 c1, .slice a2 n2 c2] w fun e w' => e = .returned (.bool false) ∧ Qt w w' := by
  go_enter Try.func15, Try.ntmps15
  go_wp2
  go_ret
  exact ⟨rfl, Qt.refl w⟩

theorem ints_any (x y : Nm) (w : World) (hx : Nums w x) (hy : Nums w y) :
    Calls Try.prog 15 #[x.v, y.v] w fun e w' => e = .returned (.bool (x.z == y.z)) ∧ Qt w w' := by
  by_cases hl : x.z.length = y.z.length
  · obtain ⟨h1, h2, _, b1, o1, h3, h4⟩ := hx
    obtain ⟨k1, k2, _, b2, o2, k3, k4⟩ := hy
    have hv : y.v = .slice y.a x.z.length y.c := by rw [hl]
    rw [hv]
    rw [← hl] at k3 k4
    refine (ints_cells x.a y.a x.z.length x.c y.c b1 o1 b2 o2 (fun i => x.z.getD i 0) (fun i => y.z.getD i 0) w (by omega) h3 k3 h4 k4).mono ?_
    rintro e w' ⟨⟨r, rfl, hr⟩, hb⟩
    refine ⟨?_, hb⟩
    have : r = (x.z == y.z) := by
      rw [Bool.eq_iff_iff, hr, beq_iff_eq]
      exact (getD_eq_iffN _ _ hl).symm
    rw [this]
  · refine (ints_ne x.a y.a x.z.length y.z.length x.c y.c w (beq_eq_false_iff_ne.2 (by omega))).mono ?_
    rintro e w' ⟨rfl, hb⟩
    refine ⟨?_, hb⟩
    have : (x.z == y.z) = false := beq_eq_false_iff_ne.2 (fun h => hl (by rw [h]))
    rw [this]


/-- Has a code a word without a bit? -/
def bareB (g : List Wd) : Bool := g.any (fun x => decide (x.l.length = 0))
/-- What keeps a code from being read. -/
def crd (g : List Wd) : Int := if erl g = 0 then (if free g && !bareB g then 0 else 3) else erl g

theorem crd_large {g : List Wd} (h : erl g = 1) : crd g = 1 := by simp [crd, h]
theorem crd_form {g : List Wd} (h : erl g = 0) (h' : (free g && !bareB g) = false) : crd g = 3 := by simp [crd, h, h']
theorem crd_ok {g : List Wd} (h : erl g = 0) (h' : (free g && !bareB g) = true) : crd g = 0 := by
  unfold crd
  rw [if_pos h, if_pos h']

set_option maxHeartbeats 400000 in
theorem empty_any (x : Wd) (w : World) : Calls Try.prog 38 (#[x.v] ++ #[]) w fun e w' => e = .returned (.bool (decide (x.l.length = 0))) ∧ Ext w w' := by
  obtain ⟨a, c, l⟩ := x
  simp only [Wd.v]
  generalize l.length = n
  show Calls Try.prog 38 #[.slice a n c] w _
  go_enter Try.func38, Try.ntmps38
  go_wp2
  go_ret
  exact ⟨ret_bool (by rw [Bool.eq_iff_iff]; simp), Ext.refl w⟩

set_option maxHeartbeats 400000 in
theorem checkReadable_any (a : Option Addr) (c : Nat) (g : List Wd) (w : World) (hg : Wds w a c g) :
    Calls Try.prog 28 #[.slice a g.length c] w fun e w' => e = .returned (.int .i64 (crd g)) ∧ Ext w w' := by
  have eg : ∀ args w, (callFunc 38 args).run Try.prog w = .ok (.enter 38 args) w := enters_of Try.func38 (by kernel_rfl) rfl
  have h11 := prefix_any a c g w hg
  have HC : Hid (∀ W, Ext w W → Calls Try.prog 24 #[.slice a g.length c, .func (.func 38) #[] #[]] W fun e w' => e = .returned (.bool (bareB g)) ∧ Ext W w') := fun W e =>
    contains_any a c g 38 #[] (fun x => decide (x.l.length = 0)) W eg (hg.ext e) (fun W x _ _ => empty_any x W)
  clear hg eg
  rcases erl_cases g with he | he
  · rw [crd_large he]
    rw [he] at h11
    clear he
    generalize g.length = n at *
    go_enter Try.func28, Try.ntmps28
    go_wp2_with (go_at_call 8; refine h11.mono ?_; rintro e w' ⟨rfl, hb⟩)
    go_ret
    exact ⟨rfl, hb⟩
  · cases hf : free g with
    | false =>
      rw [crd_form he (by rw [hf]; rfl)]
      rw [he, hf] at h11
      clear he hf
      generalize g.length = n at *
      go_enter Try.func28, Try.ntmps28
      go_wp2_with (go_at_call 8; refine h11.mono ?_; rintro e w' ⟨rfl, hb⟩)
      go_ret
      exact ⟨rfl, hb⟩
    | true =>
      cases hb0 : bareB g with
      | true =>
        rw [crd_form he (by rw [hf, hb0]; rfl)]
        rw [he, hf] at h11
        rw [hb0] at HC
        clear he hf hb0
        generalize g.length = n at *
        go_enter Try.func28, Try.ntmps28
        go_wp2_with fail
        refine h11.mono ?_
        rintro e w1 ⟨rfl, hb⟩
        go_wp2_with fail
        refine (HC.out w1 hb).mono ?_
        rintro e w2 ⟨rfl, hb2⟩
        go_wp2
        go_ret
        exact ⟨rfl, hb.trans hb2⟩
      | false =>
        rw [crd_ok he (by rw [hf, hb0]; rfl)]
        rw [he, hf] at h11
        rw [hb0] at HC
        clear he hf hb0
        generalize g.length = n at *
        go_enter Try.func28, Try.ntmps28
        go_wp2_with fail
        refine h11.mono ?_
        rintro e w1 ⟨rfl, hb⟩
        go_wp2_with fail
        refine (HC.out w1 hb).mono ?_
        rintro e w2 ⟨rfl, hb2⟩
        go_wp2
        go_ret
        exact ⟨rfl, hb.trans hb2⟩

set_option maxHeartbeats 400000 in
theorem starts_any (B : Nat) (x r : Wd) (w : World) (hx : Bits w x) (hr : Bits w r) (hc : w.cell? ⟨B, 0, none⟩ = some r.v) :
    Calls Try.prog 29 (#[x.v] ++ #[.pointer (some ⟨B, 0, none⟩)]) w fun e w' => e = .returned (.bool (x.l.isPrefixOf r.l)) ∧ Ext w w' := by
  show Calls Try.prog 29 #[x.v, .pointer (some ⟨B, 0, none⟩)] w _
  have h1 := begins_any x r w hx hr
  clear hx hr
  generalize x.l.isPrefixOf r.l = q at *
  simp only [Wd.v] at *
  go_enter Try.func29, Try.ntmps29
  go_wp2_with (go_at_call 23; refine h1.mono ?_; rintro e w' ⟨rfl, hb⟩)
  go_ret
  exact ⟨rfl, hb.ext⟩

set_option maxHeartbeats 400000 in
theorem coded_any (a : Option Addr) (c : Nat) (g : List Wd) (w : World) (hg : Wds w a c g) :
    Calls Try.prog 12 #[.slice a g.length c] w fun e w' => e = .returned (.bool (erl g == 0)) ∧ w' = w := by
  have h10 := codeCheck_any a c g w hg
  clear hg
  generalize erl g = r at *
  generalize g.length = n at *
  go_enter Try.func12, Try.ntmps12
  go_wp2_with (go_at_call 9; refine h10.mono ?_; rintro e w' ⟨rfl, rfl⟩)
  go_ret
  exact ⟨rfl, rfl⟩

set_option maxHeartbeats 400000 in
theorem bare_any (a : Option Addr) (c : Nat) (g : List Wd) (w : World) (hg : Wds w a c g) :
    Calls Try.prog 14 #[.slice a g.length c] w fun e w' => e = .returned (.bool (bareB g)) ∧ w' = w := by
  obtain ⟨h1, h2, _, b, o, h4, h5⟩ := hg
  unfold maxLen at h2
  obtain ⟨n, hn⟩ : ∃ n, g.length = n := ⟨_, rfl⟩
  have HN : Hid (g.length = n) := hn
  have H5 : Hid (∀ i (h : i < g.length), w.cell? ⟨b, o + i, none⟩ = some (g[i].v)) := h5
  rw [hn] at h1 h4 ⊢
  clear hn h5
  go_enter Try.func14, Try.ntmps14
  go_wp2
  go_loopg [4, 7] n (fun gg _ s wr => wr = w ∧ ∃ k : Nat, k ≤ n ∧ n - k ≤ gg ∧ s = .int .i64 k ∧ Aside (∀ j (hj : j < g.length), j < k → g[j].l.length ≠ 0))
  case atStart => exact ⟨rfl, 0, Nat.zero_le _, by omega, rfl, fun j hj h => absurd h (Nat.not_lt_zero _)⟩
  case round =>
    obtain ⟨rfl, k, hk, hgg, rfl, A⟩ := hrel
    by_cases hlt : k < n
    · have hltz : (k : Int) < (n : Int) := by omega
      obtain rfl := h4 (by omega)
      have hkl : k < g.length := by rw [HN.out]; exact hlt
      have e1 := H5.out k hkl
      have bad : Aside (g[k].l.length = 0 → bareB g = true) := fun h => List.any_eq_true.2 ⟨g[k], List.getElem_mem hkl, by simpa using h⟩
      have good : Aside (g[k].l.length ≠ 0 → ∀ j (hj : j < g.length), j < k + 1 → g[j].l.length ≠ 0) := fun h j hj hj' => by
        rcases Nat.lt_succ_iff_lt_or_eq.1 hj' with h' | rfl
        · exact A.out j hj h'
        · exact h
      generalize hy : g[k] = y at e1 bad good
      clear h4 hy
      obtain ⟨ya, yc, yl⟩ := y
      simp only [Wd.v] at e1 bad good
      generalize yl.length = m at e1 bad good
      by_cases hm : m = 0
      · have bd : Hid (bareB g = true) := bad.out hm
        have hm' : ((m : Int) == 0) = true := by simp; omega
        clear hm bad good
        go_wp2
        go_ret
        exact ⟨ret_bool bd.out.symm, rfl⟩
      · have gd : Hid (∀ j (hj : j < g.length), j < k + 1 → g[j].l.length ≠ 0) := good.out hm
        have hm' : ((m : Int) == 0) = false := by simp; omega
        clear hm bad good
        go_wp2
        go_roundg (n - (k + 1))
        case measure => omega
        case rel => exact ⟨rfl, k + 1, by omega, by omega, by go_num, gd.out⟩
    · have hx : Aside (bareB g = false) := List.any_eq_false.2 (fun x hx => by
        obtain ⟨j, hj, rfl⟩ := List.mem_iff_getElem.1 hx
        have := A.out j hj (by have := HN.out; omega)
        simpa using this)
      go_wp2
      go_ret
      exact ⟨ret_bool hx.out.symm, rfl⟩

end Go.Proofs.Ytfelbgilhhmbnaa
