/-
  alpha.Make: the words of these lengths, one behind the other.
-/
import Derived.Test.YtakggfogoobdnaaMk3
import Derived.Test.YtakggfogoobdnaaJn
namespace Go.Proofs.Ytakggfogoobdnaa
open Go.RowKit

theorem info44 : (Try.prog.info? 44).map (fun i => (i.zero, i.size, i.bytes)) = some (some (.slice none 0 0), 1, 24) := by kernel_rfl

/-- A row of slices. -/
def SlRow (w : World) (B n : Nat) (V : Nat → Wd) : Prop := Row w B 44 ((List.range n).map (fun i => (V i).v))

theorem SlRow.apart {w : World} {B n : Nat} {V : Nat → Wd} (h : SlRow w B n V) {p : Addr} {v : Value} (hp : w.cell? p = some v) (hv : ∀ a l c, v ≠ .slice a l c) : p.block ≠ B := by
  intro e
  have hs := World.cell?_spot hp
  obtain ⟨b, o, s⟩ := p
  simp at hs e
  subst hs
  subst e
  rw [cell_of_row w b o _ 44 (0, 0) h] at hp
  simp only [List.getElem?_toArray, List.getElem?_map] at hp
  rcases hr : (List.range n)[o]? with _ | i
  · rw [hr] at hp; simp at hp
  · rw [hr] at hp
    simp only [Option.map_some, Option.some.injEq] at hp
    exact hv _ _ _ hp.symm

theorem cell_other {w : World} {B k : Nat} {u : Value} {p : Addr} (hp : p.block ≠ B) : (w.setCell ⟨B, k, none⟩ u).cell? p = w.cell? p :=
  World.cell?_of_block (w := w) (Below.heap_setCell _ _ _ _ hp)

theorem Bits.stored {w : World} {B n k : Nat} {V : Nat → Wd} {x : Wd} (h : Bits w x) (hr : SlRow w B n V) (u : Value) : Bits (w.setCell ⟨B, k, none⟩ u) x := by
  obtain ⟨h1, h2, h0, b, o, h3, h4⟩ := h
  refine ⟨h1, h2, h0, b, o, h3, fun i hi => ?_⟩
  rw [cell_other (hr.apart (h4 i hi) (by intros; simp))]
  exact h4 i hi

/-- The words of numbers with their lengths. -/
def wds (W : List (Nat × Nat)) : List (List Bool) := W.map fun p => dg p.1 p.2

/-- What lies in memory while words are made. -/
structure Gv (w0 wr : World) (B n : Nat) (W : List (Nat × Nat)) (V : Nat → Wd) : Prop where
  ext : Ext w0 wr
  size : w0.heap.size ≤ B
  row : SlRow wr B n V
  bits : ∀ i, i < n → Bits wr (V i)
  words : ∀ i, i < W.length → (V i).l = (wds W).getD i []

theorem Gv.next {w0 wr w2 : World} {B n : Nat} {W : List (Nat × Nat)} {V : Nat → Wd} {y : Wd} {p : Nat × Nat} (h : Gv w0 wr B n W V) (e : Ext wr w2) (hy : Bits w2 y) (hl : y.l = dg p.1 p.2) :
    Gv w0 (w2.setCell ⟨B, W.length, none⟩ y.v) B n (W ++ [p]) (fun j => if j = W.length then y else V j) := by
  have hr2 : SlRow w2 B n V := Row.ext h.row e
  refine ⟨(h.ext.trans e).setCell h.size _, h.size, ?_, ?_, ?_⟩
  · refine Row.setF hr2 _ _ (fun j _ => ?_)
    by_cases hj : j = W.length
    · simp [hj]
    · simp [hj]
  · intro j hj
    by_cases hji : j = W.length
    · simp only [if_pos hji]
      exact hy.stored hr2 _
    · simp only [if_neg hji]
      exact ((h.bits j hj).ext e).stored hr2 _
  · intro j hj
    by_cases hji : j = W.length
    · simp only [if_pos hji]
      rw [hl, hji]
      simp [wds, List.getD_eq_getElem?_getD]
    · simp only [if_neg hji]
      have hj' : j < W.length := by simp at hj; omega
      rw [h.words j hj']
      simp [wds, List.getD_eq_getElem?_getD, List.getElem?_append_left, hj']

theorem Gv.code {w0 wr : World} {B n : Nat} {W : List (Nat × Nat)} {V : Nat → Wd} (h : Gv w0 wr B n W V) (hn : n ≤ 8) (hW : W.length = n) :
    ∃ g : List Wd, g.length = n ∧ g.map (·.l) = wds W ∧ Wds wr (some ⟨B, 0, none⟩) n g := by
  refine ⟨(List.range n).map V, by simp, ?_, ?_⟩
  · rw [List.map_map]
    apply List.ext_getElem
    · simp [wds, hW]
    · intro i h1 h2
      simp at h1
      simp only [List.getElem_map, List.getElem_range, Function.comp_apply]
      rw [h.words i (by omega)]
      have hi : i < (wds W).length := by simp [wds]; omega
      simp [List.getD_eq_getElem?_getD, hi]
  · have hr : Row wr B 44 (((List.range n).map V).map Wd.v) := by
      rw [List.map_map]
      exact h.row
    have := hr.wds (by simp [maxLen]; omega) (fun x hx => by
      obtain ⟨i, hi, rfl⟩ := List.mem_map.1 hx
      exact h.bits i (List.mem_range.1 hi))
    simpa using this

theorem lerl_nat {z : List Int} (h : lerl z = 0) : z.length ≤ 8 ∧ ∃ l : List Nat, z = lz l ∧ ∀ x ∈ l, x ≤ 8 := by
  rcases lerl_cases z with ⟨_, h2⟩ | ⟨_, _, h2⟩ | ⟨h1, h3, _⟩
  · omega
  · omega
  · refine ⟨h1, z.map Int.toNat, ?_, ?_⟩
    · unfold lz
      rw [List.map_map]
      have : ∀ x ∈ z, ((fun x : Nat => (x : Int)) ∘ Int.toNat) x = x := fun x hx => by
        have := List.any_eq_false.1 h3 x hx
        simp [outB] at this ⊢
        omega
      rw [List.map_congr_left this]
      simp
    · intro x hx
      obtain ⟨y, hy, rfl⟩ := List.mem_map.1 hx
      have := List.any_eq_false.1 h3 y hy
      simp [outB] at this
      omega

theorem pow_wrap (s : Nat) (hs : s ≤ 8) : wrap64 ((2 : Int) ^ s) = ((2 ^ s : Nat) : Int) := by
  have h : s = 0 ∨ s = 1 ∨ s = 2 ∨ s = 3 ∨ s = 4 ∨ s = 5 ∨ s = 6 ∨ s = 7 ∨ s = 8 := by omega
  rcases h with rfl | rfl | rfl | rfl | rfl | rfl | rfl | rfl | rfl <;> simp [wrap64]

theorem pow_256 {s : Nat} (hs : s ≤ 8) : 2 ^ s ≤ 256 := Nat.pow_le_pow_right (n := 2) (by omega) hs

set_option maxHeartbeats 1000000 in
theorem amake_bad (z : Nm) (w : World) (hz : Nums w z) (hl : lerl z.z ≠ 0) :
    Calls Try.prog 14 #[z.v] w fun e w' => e = .returned (.tuple #[.slice none 0 0, .int .i64 (lerl z.z)]) ∧ Ext w w' := by
  have h7 := sum_any z w hz
  clear hz
  simp only [if_neg hl] at h7
  have hne : (lerl z.z != 0) = true := by simpa using hl
  clear hl
  generalize lerl z.z = r at *
  simp only [Nm.v] at *
  generalize z.z.length = n at *
  go_enter Try.func14, Try.ntmps14
  go_wp2_with fail
  refine h7.mono ?_
  rintro e w1 ⟨rfl, hb⟩
  go_wp2
  go_ret2
  exact ⟨rfl, hb⟩

set_option maxHeartbeats 4000000 in
theorem amake_any (z : Nm) (l : List Nat) (w : World) (hz : Nums w z) (hzl : z.z = lz l) (hok : lerl z.z = 0) :
    Calls Try.prog 14 #[z.v] w fun e w' => Ext w w' ∧ ((run l = none ∧ e = .returned (.tuple #[.slice none 0 0, .int .i64 5])) ∨
      ∃ W x a, run l = some (W, x, a) ∧ ∃ (B : Nat) (g : List Wd), e = .returned (.tuple #[.slice (some ⟨B, 0, none⟩) g.length g.length, .int .i64 0]) ∧ g.length = l.length ∧ g.map (·.l) = wds W ∧ Wds w' (some ⟨B, 0, none⟩) g.length g) := by
  have h7 := sum_any z w hz
  rw [hok, if_pos rfl] at h7
  obtain ⟨h8, l', hl', hle'⟩ := lerl_nat hok
  have : l' = l := by
    rw [hzl] at hl'
    have := congrArg (List.map Int.toNat) hl'
    simpa [lz, Function.comp_def] using this.symm
  subst this
  rw [hzl, lz_length] at h8
  have RZ : Hid (∀ (x a b : Nat) (W : World), x ≤ 256 → a ≤ 8 → b ≤ 8 → Calls Try.prog 28 #[.int .i64 (x : Int), .int .i64 (a : Int), .int .i64 (b : Int)] W fun e w' => e = .returned (.int .i64 (rsz x a b : Nat)) ∧ w' = W) := fun x a b W h1 h2 h3 => resize_any x a b h1 h2 h3 W
  have DG : Hid (∀ (t s : Nat) (W : World), t ≤ 256 → s ≤ 8 → Calls Try.prog 29 #[.int .i64 (t : Int), .int .i64 (s : Int)] W fun e w' => (∃ x : Wd, e = .returned x.v ∧ x.l = dg t s ∧ Bits w' x) ∧ Ext W w') := fun t s W ht hs => adigits_any t s ht hs W
  obtain ⟨za, zc, zz⟩ := z
  simp only [Nm.v] at *
  subst hzl
  obtain ⟨q1, q2, _, qb, qo, q4, q5⟩ := hz
  simp only at q1 q2 q4 q5
  rw [lz_length] at q1 q4 q5 h7 ⊢
  unfold maxLen at q2
  have HLE : Hid (∀ x ∈ l', x ≤ 8) := hle'
  obtain ⟨n, hn⟩ : ∃ n, l'.length = n := ⟨_, rfl⟩
  have HN : Hid (l'.length = n) := hn
  rw [hn] at q1 q4 q5 h7 h8 ⊢
  have Q5 : Hid (∀ i, i < n → w.cell? ⟨qb, qo + i, none⟩ = some (.int .i64 ((lz l').getD i 0))) := q5
  clear hok hl' hle' hn q5
  generalize ksum (lz l') = K at *
  have hmk := run_make_row' (P := Try.prog) 34 44 (.slice none 0 0) 24 Try.underlying34 info44 rfl .i64 .i64 n (by omega) (by omega)
  go_enter Try.func14, Try.ntmps14
  go_wp2_with fail
  refine h7.mono ?_
  rintro e w1 ⟨rfl, hb1⟩
  have st : Hid (∃ W, W = w1.alloc (.cells (madeCells #[.slice none 0 0] n) 44) ∧ Gv w W w1.heap.size n [] (fun _ => ⟨none, 0, []⟩)) := by
    refine ⟨_, rfl, hb1.alloc _, hb1.size, ?_, ?_, ?_⟩
    · exact Row.madeF w1 44 (.slice none 0 0) n _ (fun i _ => rfl)
    · intro i _
      exact ⟨by simp, by simp, by simp, 0, 0, by simp, by simp⟩
    · intro i hi
      simp at hi
  clear hb1
  go_wp2
  obtain ⟨W0, hW0, hG0⟩ := st.out
  rw [← hW0]
  have G0 : Hid (∃ V, Gv w W0 w1.heap.size n [] V) := ⟨_, hG0⟩
  clear hW0 hG0 st hmk h7
  generalize w1.heap.size = B at *
  go_loopg [7, 8, 9, 10, 24] n (fun gg s7 s8 _ _ s24 wr => ∃ k x a : Nat, k ≤ n ∧ n - k ≤ gg ∧ s24 = .int .i64 k ∧ s7 = .int .i64 x ∧ s8 = .int .i64 a ∧ a ≤ 8 ∧ x ≤ 256 ∧ Aside (∃ W V, run (l'.take k) = some (W, x, a) ∧ Gv w wr B n W V))
  case atStart => exact ⟨0, 0, 0, by omega, by omega, rfl, rfl, rfl, by omega, by omega, [], by
    obtain ⟨V, hV⟩ := G0.out
    exact ⟨V, rfl, hV⟩⟩
  case round =>
    obtain ⟨k, x, a, hk, hgg, rfl, rfl, rfl, ha8, hx8, A⟩ := hrel
    obtain ⟨W, V, hrun, hG⟩ := A.out
    have HRUN : Hid (run (l'.take k) = some (W, x, a)) := hrun
    have HG : Hid (Gv w wr B n W V) := hG
    clear A G0
    by_cases hlt : k < n
    · have hltz : (k : Int) < (n : Int) := by omega
      obtain rfl := q4 (by omega)
      have e1 := hG.ext.cell (Q5.out k hlt)
      rw [lz_z] at e1
      have hkl : k < l'.length := by rw [HN.out]; exact hlt
      have hgb : l'.getD k 0 = l'[k] := by simp [List.getD_eq_getElem?_getD, hkl]
      have hb8 : l'.getD k 0 ≤ 8 := by rw [hgb]; exact HLE.out _ (List.getElem_mem hkl)
      have HNX : Hid (run (l'.take (k + 1)) = stp (some (W, x, a)) (l'.getD k 0)) := by
        show _ = _
        rw [run_take l' k hkl, hrun, hgb]
      clear hgb hrun hG hkl
      generalize l'.getD k 0 = b at *
      have hrz := RZ.out x a b wr hx8 ha8 hb8
      go_wp2_with fail
      refine hrz.mono ?_
      rintro e w2 ⟨rfl, rfl⟩
      clear hrz
      have hW : W.length = k := by
        have := congrArg List.length (run_ok HRUN.out).2
        simp only [List.length_map, List.length_take, HN.out] at this
        omega
      obtain ⟨y, hy⟩ : ∃ y, rsz x a b = y := ⟨_, rfl⟩
      rw [hy]
      by_cases hyb : y < 2 ^ b
      · have hcz : (y : Int) < wrap64 ((2 : Int) ^ b) := by
          rw [pow_wrap b hb8]
          exact Int.ofNat_lt.2 hyb
        have hy256 : y < 256 := Nat.lt_of_lt_of_le hyb (pow_256 hb8)
        have NX : Hid (run (l'.take (k + 1)) = some (W ++ [(y, b)], y + 1, b)) := by
          show _ = _
          rw [HNX.out]
          simp [stp, hy, hyb]
        have hdg := DG.out y b w2 (by omega) hb8
        have hkz : (k : Int) < (n : Int) := by omega
        clear hy hyb
        go_wp2_with fail
        clear hcz
        refine hdg.mono ?_
        rintro e w3 ⟨⟨u, rfl, hul, hub⟩, hE3⟩
        have c1 : ∃ t, w3.cell? ⟨B, k, none⟩ = some t := ⟨_, (Row.ext HG.out.row hE3).cellF k hlt⟩
        obtain ⟨t, c1⟩ := c1
        have f1 := (Row.ext HG.out.row hE3).fr k
        have GN : Hid (∃ W' V', run (l'.take (k + 1)) = some (W', y + 1, b) ∧ Gv w (w3.setCell ⟨B, k, none⟩ u.v) B n W' V') := by
          have := HG.out.next hE3 hub (p := (y, b)) hul
          rw [hW] at this
          exact ⟨_, _, NX.out, this⟩
        obtain ⟨ua, uc, ul⟩ := u
        simp only [Wd.v] at *
        clear hul hub hE3 hdg HG
        generalize ul.length = un at *
        go_wp2
        go_roundg (n - (k + 1))
        case measure => omega
        case rel => exact ⟨k + 1, y + 1, b, by omega, by omega, by go_num, by go_num, rfl, hb8, by omega, GN.out⟩
      · have hcz : wrap64 ((2 : Int) ^ b) ≤ (y : Int) := by
          rw [pow_wrap b hb8]
          exact Int.ofNat_le.2 (by omega)
        have F : Hid (Ext w w2 ∧ run l' = none) := by
          refine ⟨HG.out.ext, run_stops (k := k + 1) ?_⟩
          rw [HNX.out]
          simp [stp, hy, hyb]
        clear hyb hy HG
        go_wp2
        clear hcz
        go_ret2
        exact ⟨F.out.1, .inl ⟨F.out.2, rfl⟩⟩
    · have hkn : k = n := by omega
      have hltz : ¬ (k : Int) < (n : Int) := by omega
      have F : Hid (Ext w wr ∧ ∃ W x a, run l' = some (W, x, a) ∧ ∃ g : List Wd, g.length = n ∧ g.map (·.l) = wds W ∧ Wds wr (some ⟨B, 0, none⟩) n g) := by
        have hr := HRUN.out
        rw [List.take_of_length_le (by rw [HN.out]; omega)] at hr
        have hW : W.length = n := by
          have := congrArg List.length (run_ok hr).2
          simp only [List.length_map, HN.out] at this
          exact this
        exact ⟨hG.ext, W, x, a, hr, hG.code h8 hW⟩
      clear hrun hG HG HRUN
      go_wp2
      go_ret2
      obtain ⟨hE, W, x, a, h1, g, h2, h3, h4⟩ := F.out
      exact ⟨hE, .inr ⟨W, ⟨x, a, h1⟩, B, g, by rw [h2]; rfl, h2, h3, by rw [h2]; exact h4⟩⟩

end Go.Proofs.Ytakggfogoobdnaa
