/-
  hamm.put: the data at their places, then the bits that make the pointer 0.
-/
import Derived.Test.YtdplmaofapnhhaaOw
import Derived.Test.YtdplmaofapnhhaaPtr
import Derived.Test.YtdplmaofapnhhaaChk
import Derived.RegionTactic
import Derived.BigRegion
import Derived.Lib.RabinKarpLaws
namespace Go.Proofs.Ytdplmaofapnhhaa
open Go.RowKit
set_option linter.unusedVariables false

/-- A store into a row whose cells go by their number. -/
theorem Row.setF {w : World} {B n k : Nat} {t : TypeId} {f : Nat → Value} (h : Row w B t ((List.range n).map f)) (v : Value) (g : Nat → Value) (hg : ∀ i, i < n → g i = if i = k then v else f i) : Row (w.setCell ⟨B, k, none⟩ v) B t ((List.range n).map g) := by
  have := h.set k v
  have e : ((List.range n).map f).set k v = (List.range n).map g := by
    apply List.ext_getElem
    · simp
    · intro i h1 h2
      simp at h1 h2
      rw [List.getElem_set]
      simp only [List.getElem_map, List.getElem_range]
      rw [hg i h2]
      by_cases hk : k = i
      · rw [if_pos hk, if_pos hk.symm]
      · rw [if_neg hk, if_neg (fun h => hk h.symm)]
  rw [e] at this
  exact this
theorem Row.madeF (w : World) (t : TypeId) (z : Value) (n : Nat) (f : Nat → Value) (hf : ∀ i, i < n → f i = z) : Row (w.alloc (.cells (madeCells #[z] n) t)) w.heap.size t ((List.range n).map f) := by
  have := Row.made w t z n
  have e : (List.range n).map f = List.replicate n z := by
    apply List.ext_getElem
    · simp
    · intro i h1 h2
      simp at h1
      simp [hf i h1]
  rw [e]
  exact this
theorem Row.cellF {w : World} {B n : Nat} {t : TypeId} {f : Nat → Value} (h : Row w B t ((List.range n).map f)) (k : Nat) (hk : k < n) : w.cell? ⟨B, k, none⟩ = some (f k) := by
  have := h.cell k (by simpa using hk)
  simpa using this

theorem bit_at (t j : Nat) (ht : t ≤ 1048576) : (bits BinOp.and IntKind.i64 ((t : Int) / 2 ^ j) 1 == 1) = t.testBit j := by
  have e : (t : Int) / 2 ^ j = ((t / 2 ^ j : Nat) : Int) := by simp
  have hl : t / 2 ^ j ≤ t := Nat.div_le_self _ _
  rw [e, and_one _ (by omega), Nat.testBit_eq_decide_div_mod_eq, Bool.eq_iff_iff]
  simp
  omega
theorem pow_small (j : Nat) (hj : j < 4) : wrap64 (2 ^ j) = ((2 ^ j : Nat) : Int) := by
  obtain rfl | rfl | rfl | rfl : j = 0 ∨ j = 1 ∨ j = 2 ∨ j = 3 := by omega
  all_goals simp [wrap64]

/-- The cells once the data of the first k places are laid. -/
def f1 (r : Nat) (d : List Bool) (k i : Nat) : Value := .bool (decide (i < k) && (mb r d).getD i false)
/-- The cells once the first j of the other bits are laid. -/
def f2 (r x : Nat) (d : List Bool) (j i : Nat) : Value := .bool (if isC (i + 1) && decide (lg (i + 1) < j) then x.testBit (lg (i + 1)) else (mb r d).getD i false)

theorem f1_check {r k : Nat} {d : List Bool} (hk : k < 2 ^ r - 1) (hc : isC (k + 1) = true) (i : Nat) : f1 r d (k + 1) i = f1 r d k i := by
  unfold f1 mb
  by_cases h : i = k
  · subst h
    rw [mg_at _ 1 i _ d hk, Nat.add_comm 1 i, if_pos hc]
    simp
  · have : decide (i < k + 1) = decide (i < k) := by rw [Bool.eq_iff_iff]; simp; omega
    rw [this]
theorem f1_data {r k : Nat} {d : List Bool} (hk : k < 2 ^ r - 1) (hc : isC (k + 1) = false) (i : Nat) : f1 r d (k + 1) i = if i = k then .bool (d.getD (nd 1 k) false) else f1 r d k i := by
  unfold f1 mb
  by_cases h : i = k
  · subst h
    rw [if_pos rfl, mg_at _ 1 i _ d hk, Nat.add_comm 1 i, if_neg (by rw [hc]; decide)]
    simp
  · rw [if_neg h]
    have : decide (i < k + 1) = decide (i < k) := by rw [Bool.eq_iff_iff]; simp; omega
    rw [this]
theorem f1_all {r : Nat} {d : List Bool} : (List.range (2 ^ r - 1)).map (f1 r d (2 ^ r - 1)) = bv (mb r d) := by
  apply List.ext_getElem
  · simp [mb, mg_len]
  · intro i h1 h2
    simp at h1
    simp only [List.getElem_map, List.getElem_range]
    unfold f1
    have h3 : i < (mb r d).length := by unfold mb; rw [mg_len]; exact h1
    simp [h1, List.getD_eq_getElem?_getD, h3]
theorem f2_start {r x : Nat} {d : List Bool} (i : Nat) (hi : i < 2 ^ r - 1) : f2 r x d 0 i = f1 r d (2 ^ r - 1) i := by
  unfold f2 f1
  simp [hi]
theorem f2_next {r x j : Nat} {d : List Bool} (hj : j < 4) (i : Nat) (hi : i < 15) : f2 r x d (j + 1) i = if i = 2 ^ j - 1 then .bool (x.testBit j) else f2 r x d j i := by
  have a : ∀ i : Fin 15, ∀ j : Fin 4, (isC (i.1 + 1) && decide (lg (i.1 + 1) < j.1 + 1)) = ((isC (i.1 + 1) && decide (lg (i.1 + 1) < j.1)) || decide (i.1 = 2 ^ j.1 - 1)) := by decide
  have b : ∀ j : Fin 4, lg (2 ^ j.1 - 1 + 1) = j.1 := by decide
  have a' := a ⟨i, hi⟩ ⟨j, hj⟩
  have b' := b ⟨j, hj⟩
  simp only at a' b'
  unfold f2
  rw [a']
  by_cases h : i = 2 ^ j - 1
  · rw [if_pos h, decide_eq_true h, Bool.or_true, if_pos rfl, h, b']
  · rw [if_neg h, decide_eq_false h, Bool.or_false]
theorem f2_all {r x : Nat} {d : List Bool} (h : R r) : (List.range (2 ^ r - 1)).map (f2 r x d r) = bv (mx r x d) := by
  apply List.ext_getElem
  · simp [mx, mg_len]
  · intro i h1 h2
    simp at h1
    have h3 : i < (mx r x d).length := by unfold mx; rw [mg_len]; exact h1
    simp only [List.getElem_map, List.getElem_range]
    have e : (mx r x d)[i] = (mx r x d).getD i false := by rw [List.getD_eq_getElem?_getD, List.getElem?_eq_getElem h3]; rfl
    rw [e]
    unfold f2 mx mb
    rw [mg_at _ 1 i _ d h1, mg_at _ 1 i _ d h1, Nat.add_comm 1 i]
    cases hc : isC (i + 1)
    · simp
    · have := (isC_lg h (p := i + 1) (by omega) (by omega) hc).2
      simp [this]

set_option maxHeartbeats 2000000 in
theorem hput_any {r : Nat} (hr : R r) (x : Wd) (hd : x.l.length = 2 ^ r - 1 - r) (w : World) (hx : Bits w x) :
    Calls Try.prog 20 #[.int .i64 r, x.v] w fun e w' => ∃ v, e = .returned v ∧ OwnB w w' v (hp r x.l) := by
  have c1 := places_any hr w
  have h15 : 3 ≤ 2 ^ r - 1 ∧ 2 ^ r - 1 ≤ 15 := by obtain rfl | rfl | rfl := hr.cases <;> decide
  have hr4 : 2 ≤ r ∧ r ≤ 4 := hr
  have Hlt : Hid (∀ k, k < 2 ^ r - 1 → isC (k + 1) = false → nd 1 k < 2 ^ r - 1 - r) := fun k hk hc => nd_lt hr hk hc
  obtain ⟨a, c, d⟩ := x
  obtain ⟨h1, h2, _, b, o, h4, h5⟩ := hx
  simp only at h1 h2 h4 h5 hd
  simp only [Wd.v]
  rw [hd] at h1 h4 h5 ⊢
  obtain ⟨p, hp0⟩ : ∃ p, pf 1 (mb r d) = p := ⟨_, rfl⟩
  have hpl : p < 16 := by
    rw [← hp0]
    have := mb_lt (r := r) d
    have : 2 ^ r ≤ 2 ^ 4 := Nat.pow_le_pow_right (by omega) hr4.2
    omega
  have F1C : Hid (∀ k, k < 2 ^ r - 1 → isC (k + 1) = true → ∀ i, f1 r d (k + 1) i = f1 r d k i) := fun k hk hc i => f1_check hk hc i
  have F1D : Hid (∀ k, k < 2 ^ r - 1 → isC (k + 1) = false → ∀ i, f1 r d (k + 1) i = if i = k then .bool (d.getD (nd 1 k) false) else f1 r d k i) := fun k hk hc i => f1_data hk hc i
  have F1A : Hid ((List.range (2 ^ r - 1)).map (f1 r d (2 ^ r - 1)) = bv (mb r d)) := f1_all
  have F2S : Hid (∀ i, i < 2 ^ r - 1 → f2 r p d 0 i = f1 r d (2 ^ r - 1) i) := fun i hi => f2_start i hi
  have F2N : Hid (∀ j i, j < 4 → i < 15 → f2 r p d (j + 1) i = if i = 2 ^ j - 1 then .bool (p.testBit j) else f2 r p d j i) := fun j i hj hi => f2_next hj i hi
  have F2A : Hid ((List.range (2 ^ r - 1)).map (f2 r p d r) = bv (hp r d)) := by show _ = _; unfold hp; rw [hp0]; exact f2_all hr
  have HL : Hid ((hp r d).length = 2 ^ r - 1) := hp_len r d
  have ML : Hid ((mb r d).length = 2 ^ r - 1) := mg_len _ _ _ _
  have PJ : Hid (∀ j, j < r → 2 ^ j - 1 < 2 ^ r - 1 ∧ 1 ≤ 2 ^ j) := fun j hj => by
    have q1 : 2 ^ j < 2 ^ r := Nat.pow_lt_pow_right (by omega) hj
    have q2 := Nat.two_pow_pos j
    omega
  have HC : Hid (∀ i, i < 2 ^ r - 1 - r → w.cell? ⟨b, o + i, none⟩ = some (.bool (d.getD i false))) := h5
  have NS : Hid (∀ k, nd 1 (k + 1) = nd 1 k + (if isC (k + 1) then 0 else 1)) := fun k => by rw [nd_snoc, Nat.add_comm 1 k]
  have HP : Hid (∀ (i : Nat) W, i < 15 → Calls Try.prog 30 #[.int .i64 ((i : Int) + 1)] W fun e w' => e = .returned (.bool (isC (i + 1))) ∧ w' = W) := fun i W h => isCheck_any i h W
  have HF : Hid (pf 1 (mb r d) = p) := hp0
  clear h5 hp0 hd hr
  generalize 2 ^ r - 1 = n at *
  have hmk := run_make_row' (P := Try.prog) 22 4 (.bool false) 1 Try.underlying22 info4 rfl .i64 .i64 n (by omega) (by omega)
  have st : Hid (∃ W, W = w.alloc (.cells (madeCells #[.bool false] n) 4) ∧ Ext w W ∧ Row W w.heap.size 4 ((List.range n).map (f1 r d 0))) :=
    ⟨_, rfl, (Ext.refl w).alloc _, Row.madeF w 4 (.bool false) n _ (fun i _ => by unfold f1; simp)⟩
  have hD15 : n - r ≤ 13 := by omega
  generalize n - r = D at *
  unfold maxLen at h2
  go_enter Try.func20, Try.ntmps20
  go_wp2_with fail
  refine c1.mono ?_
  rintro e w1 ⟨rfl, rfl⟩
  clear c1
  go_wp2
  obtain ⟨W, hW, hE, hR⟩ := st.out
  rw [← hW]
  have HE : Hid (Ext w1 W) := hE
  have HR : Hid (Row W w1.heap.size 4 ((List.range n).map (f1 r d 0))) := hR
  clear hW hE hR st hmk
  go_loopg [6, 15] n (fun gg s6 s15 wr => ∃ k : Nat, k ≤ n ∧ n - k ≤ gg ∧ s15 = .int .i64 k ∧ s6 = .int .i64 (nd 1 k : Nat) ∧ Aside (Ext w1 wr) ∧ Aside (Row wr w1.heap.size 4 ((List.range n).map (f1 r d k))))
  case atStart => exact ⟨0, Nat.zero_le _, by omega, rfl, rfl, HE.out, HR.out⟩
  case round =>
    obtain ⟨k, hk, hgg, rfl, rfl, E, X⟩ := hrel
    by_cases hlt : k < n
    · have hltz : (k : Int) < (n : Int) := by omega
      have c1 := HP.out k wr (by omega)
      have ns := NS.out k
      clear HP NS F1A F2S F2N F2A HL ML PJ HF HE HR
      cases hc : isC (k + 1)
      · rw [hc] at c1 ns
        have ns' : Hid (nd 1 (k + 1) = nd 1 k + 1) := ns
        have hlt2 := Hlt.out k hlt hc
        have fd := F1D.out k hlt hc
        have e1 := E.out.cell (HC.out _ hlt2)
        obtain rfl := h4 (by omega)
        have e2 := X.out.cellF k hlt
        have f2' := X.out.fr k
        generalize hv0 : d.getD (nd 1 k) false = v0 at *
        have hfew : nd 1 k < 15 := by omega
        have nX : Hid (Row (wr.setCell ⟨w1.heap.size, k, none⟩ (.bool v0)) w1.heap.size 4 ((List.range n).map (f1 r d (k + 1)))) := X.out.setF _ _ (fun i _ => fd i)
        have nE : Hid (Ext w1 (wr.setCell ⟨w1.heap.size, k, none⟩ (.bool v0))) := E.out.setCell (Nat.le_refl _) _
        generalize f1 r d k k = u0 at *
        clear HC Hlt F1C F1D fd X E hc ns hv0
        generalize nd 1 k = q at *
        go_wp2_with fail
        refine c1.mono ?_
        rintro e w2 ⟨rfl, rfl⟩
        clear c1
        go_wp2
        go_roundg (n - (k + 1))
        case measure => omega
        case rel => exact ⟨k + 1, by omega, by omega, by go_num, by rw [ns'.out]; go_num, nE.out, nX.out⟩
      · rw [hc] at c1 ns
        have ns' : Hid (nd 1 (k + 1) = nd 1 k) := ns
        have fc := F1C.out k hlt hc
        have nX : Hid (Row wr w1.heap.size 4 ((List.range n).map (f1 r d (k + 1)))) := by
          show Row _ _ _ _
          rw [show f1 r d (k + 1) = f1 r d k from funext fc]
          exact X.out
        clear HC Hlt F1C F1D fc X hc ns
        generalize nd 1 k = q at *
        go_wp2_with fail
        refine c1.mono ?_
        rintro e w2 ⟨rfl, rfl⟩
        clear c1
        go_wp2
        go_roundg (n - (k + 1))
        case measure => omega
        case rel => exact ⟨k + 1, by omega, by omega, by go_num, by rw [ns'.out], E.out, nX.out⟩
    · obtain rfl : k = n := by omega
      have hltz : ¬ (k : Int) < (k : Int) := by omega
      have c3 := pointerOf_any ⟨some ⟨w1.heap.size, 0, none⟩, k, mb r d⟩ (by show (mb r d).length ≤ 15; rw [ML.out]; omega) wr (by
        have h := X.out
        rw [F1A.out] at h
        have := h.bits (by rw [ML.out]; unfold maxLen; omega)
        rw [ML.out] at this
        exact this)
      simp only [Wd.v, ML.out, HF.out] at c3
      clear HP NS HC Hlt F1C F1D F1A ML HF HE HR
      go_wp2_with fail
      refine c3.mono ?_
      rintro e w2 ⟨rfl, q2⟩
      clear c3
      have HE2 : Hid (Ext w1 w2) := E.out.trans q2.ext
      have HR2 : Hid (Row w2 w1.heap.size 4 ((List.range k).map (f2 r p d 0))) := by
        show Row _ _ _ _
        rw [List.map_congr_left (fun i hi => F2S.out i (List.mem_range.1 hi))]
        exact Row.ext X.out q2.ext
      clear E X q2 F2S
      go_wp2
      go_loopg [35] r (fun gg s35 wr => ∃ j : Nat, j ≤ r ∧ r - j ≤ gg ∧ s35 = .int .i64 j ∧ Aside (Ext w1 wr) ∧ Aside (Row wr w1.heap.size 4 ((List.range k).map (f2 r p d j))))
      case atStart => exact ⟨0, Nat.zero_le _, by omega, rfl, HE2.out, HR2.out⟩
      case round =>
        obtain ⟨j, hj, hgj, rfl, E, X⟩ := hrel
        by_cases hlj : j < r
        · have hljz : (j : Int) < (r : Int) := by omega
          have pj := PJ.out j hlj
          have e2 := X.out.cellF (2 ^ j - 1) pj.1
          have fr2 := X.out.fr (2 ^ j - 1)
          have bt := bit_at p j (by omega)
          have pw := pow_small j (by omega)
          have nX : Hid (Row ((wr.setCell ⟨w1.heap.size, 2 ^ j - 1, none⟩ (.bool (p.testBit j)))) w1.heap.size 4 ((List.range k).map (f2 r p d (j + 1)))) := X.out.setF _ _ (fun i hi => F2N.out j i (by omega) (by omega))
          have nE : Hid (Ext w1 (wr.setCell ⟨w1.heap.size, 2 ^ j - 1, none⟩ (.bool (p.testBit j)))) := E.out.setCell (Nat.le_refl _) _
          generalize f2 r p d j (2 ^ j - 1) = u0 at *
          obtain ⟨q, hq⟩ : ∃ q, 2 ^ j = q + 1 := ⟨2 ^ j - 1, (Nat.sub_add_cancel pj.2).symm⟩
          rw [hq, Nat.add_sub_cancel] at e2 fr2 nX nE pj
          rw [hq, Int.natCast_add] at pw
          have hq15 : q < k := pj.1
          clear PJ F2N F2A HL HE2 HR2 hq pj X E
          generalize p.testBit j = tb at *
          go_wp2
          go_region
          all_goals
            go_wp2
            go_roundg (r - (j + 1))
            case measure => omega
            case rel => exact ⟨j + 1, by omega, by omega, by go_num, nE.out.drewN 1, Row.ext nX.out ((Ext.refl _).drewN 1)⟩
        · obtain rfl : j = r := by omega
          have hljz : ¬ (j : Int) < (j : Int) := by omega
          clear PJ F2N HE2 HR2
          go_wp2
          go_ret
          refine ⟨_, rfl, ?_⟩
          have := OwnB.of_row (l := hp j d) (rest := []) (g := w1.heap.size) (cap := k) E.out (Nat.le_refl _) (by
            have h := X.out
            rw [F2A.out] at h
            show Row _ _ _ _
            rw [List.append_nil]
            exact h) (by rw [HL.out]; rfl) (by unfold maxLen; omega)
          rw [HL.out] at this
          exact this

end Go.Proofs.Ytdplmaofapnhhaa
