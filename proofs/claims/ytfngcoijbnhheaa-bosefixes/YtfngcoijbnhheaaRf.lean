/-
  quipuref.Rest: g is taken away where the greatest power still stands; what is then left.
-/
import Derived.Test.YtfngcoijbnhheaaChk
import Derived.Test.YtfngcoijbnhheaaRw
namespace Go.Proofs.Ytfngcoijbnhheaa
open Go.RowKit
set_option linter.unusedVariables false

theorem bl_set {f h : Nat → Bool} {n k : Nat} {v : Bool} (e : ∀ j, j < n → h j = if j = k then v else f j) : (bl f n).set k v = bl h n := by
  apply List.ext_getElem
  · simp
  · intro i h1 h2
    simp at h1
    rw [List.getElem_set]
    simp only [List.getElem_map, List.getElem_range]
    rw [e i h1]
    by_cases hk : k = i
    · rw [if_pos hk, if_pos hk.symm]
    · rw [if_neg hk, if_neg (fun h => hk h.symm)]

/-- The cells while g is taken away at i: q places of it are done. -/
def ci (g : Nat) (f : Nat → Bool) (i q j : Nat) : Bool := ce g f i j != (decide (i ≤ j) && decide (j < i + q) && g.testBit (g.log2 - (j - i)))
theorem ci_zero (g : Nat) (f : Nat → Bool) (i : Nat) : ci g f i 0 = ce g f i := by
  funext j
  unfold ci
  by_cases h : i ≤ j
  · rw [decide_eq_false (by omega : ¬ j < i + 0)]; simp
  · rw [decide_eq_false h]; simp
theorem ci_all {g : Nat} {f : Nat → Bool} {i : Nat} (h : ce g f i i = true) : ci g f i (g.log2 + 1) = ce g f (i + 1) := by
  funext j
  show (_ != _) = (_ != _)
  rw [h, Bool.true_and, show decide (j < i + (g.log2 + 1)) = decide (j ≤ i + g.log2) by rw [Bool.eq_iff_iff]; simp; omega]
theorem ce_no {g : Nat} {f : Nat → Bool} {i : Nat} (h : ce g f i i = false) : ce g f (i + 1) = ce g f i := by
  funext j
  show (_ != _) = _
  rw [h, Bool.false_and, Bool.bne_false]
theorem ci_yes {g : Nat} {f : Nat → Bool} {i q : Nat} (h : g.testBit (g.log2 - q) = true) (j : Nat) : ci g f i (q + 1) j = if j = i + q then !(ci g f i q (i + q)) else ci g f i q j := by
  by_cases e : j = i + q
  · subst e
    rw [if_pos rfl]
    unfold ci
    rw [decide_eq_true (by omega), decide_eq_true (by omega), decide_eq_false (by omega : ¬ i + q < i + q), Nat.add_sub_cancel_left, h]
    simp
  · rw [if_neg e]
    unfold ci
    rw [show decide (j < i + (q + 1)) = decide (j < i + q) by rw [Bool.eq_iff_iff]; simp; omega]
theorem ci_no {g : Nat} {f : Nat → Bool} {i q : Nat} (h : g.testBit (g.log2 - q) = false) : ci g f i (q + 1) = ci g f i q := by
  funext j
  by_cases e : j = i + q
  · subst e
    unfold ci
    rw [Nat.add_sub_cancel_left, h]
    simp
  · unfold ci
    rw [show decide (j < i + (q + 1)) = decide (j < i + q) by rw [Bool.eq_iff_iff]; simp; omega]

set_option maxHeartbeats 2000000 in
theorem refRest_some (g : Nat) (hg : G g) (x : Wd) (h0 : 0 < x.l.length) (hl : x.l.length ≤ 1000) (w : World) (hx : Bits w x) : Calls Try.prog 15 #[.int .u32 g, x.v] w fun e w' => e = .returned (.int .u32 (rs g x.l : Nat)) ∧ Ext w w' := by
  obtain ⟨pa, hv⟩ := hx.some h0
  have HX : Hid (Bits (w.alloc (.cells #[] 4)) x) := hx.ext ((Ext.refl w).alloc _)
  have HO : Hid (OwnB w (w.alloc (.cells #[] 4)) (.slice (some ⟨w.heap.size, 0, none⟩) 0 0) []) := OwnB.empty w
  have HB : Hid (([] : List Bool).length + x.l.length ≤ 140737488355328) := by show _ ≤ _; rw [List.length_nil]; omega
  obtain ⟨l, hll⟩ : ∃ l, x.l = l := ⟨_, rfl⟩
  obtain ⟨n, hn⟩ : ∃ n, x.l.length = n := ⟨_, rfl⟩
  obtain ⟨c, hcc⟩ : ∃ c, x.c = c := ⟨_, rfl⟩
  have hd := hg.deg
  have hg1 : g ≤ 131071 := hg.2.2
  obtain ⟨f, hf⟩ : ∃ f : Nat → Bool, ∀ i, f i = l.getD i false := ⟨_, fun _ => rfl⟩
  obtain ⟨r, hr⟩ : ∃ r, rs g x.l = r := ⟨_, rfl⟩
  have hr16 : r < 65536 := by rw [← hr]; exact rs_small hg _
  have er : rn g f n = r := by
    rw [← hr, ← hn]
    unfold rs
    refine rn_congr _ (fun i _ => ?_)
    rw [hf, hll]
  have HE : Hid (∀ j, j < n → ce g f (n - g.log2) j = r.testBit (n - 1 - j)) := fun j hj => by rw [ce_end hg f n j hj, er]
  have rlt : r < 2 ^ n ∨ g.log2 ≤ n := by
    by_cases h : g.log2 ≤ n
    · exact .inr h
    · left
      apply lt_of_bits
      intro i hi
      rw [← er]
      have := rn_tail hg f 0 (fun i hi => by omega) n (by omega) i
      rw [Nat.zero_add, decide_eq_false (by omega), Bool.false_and] at this
      exact this
  have rlt2 : r < 2 ^ n := by
    rcases rlt with h | h
    · exact h
    · exact Nat.lt_of_lt_of_le (by rw [← hr]; exact rs_lt hg _) (Nat.pow_le_pow_right (by omega) h)
  have R0 : Hid (sd r n 0 = 0) := sd_zero rlt2
  have RA : Hid (sd r n n = r) := sd_all r n
  have RN : Hid (∀ k, k < n → r.testBit (n - 1 - k) = false → sd r n (k + 1) = sd r n k) := fun k hk h => by rw [sd_next hk, h]; rfl
  have RY : Hid (∀ k, k < n → r.testBit (n - 1 - k) = true → n - 1 - k < 16 ∧ sd r n (k + 1) = sd r n k + 2 ^ (n - 1 - k) ∧ sd r n k + 2 ^ (n - 1 - k) < 65536) := fun k hk h => by
    have h1 := sd_next (x := r) hk
    rw [h, if_pos rfl] at h1
    have h2 := sd_le r n (k + 1)
    refine ⟨?_, h1, by omega⟩
    have h3 := Nat.ge_two_pow_of_testBit h
    rcases Nat.lt_or_ge (n - 1 - k) 16 with h4 | h4
    · exact h4
    · have := Nat.pow_le_pow_right (n := 2) (by omega) h4
      omega
  have HM : Hid (x.l = l) := hll
  have HN : Hid (l.length = n) := by show _ = _; rw [← hll, hn]
  have HF : Hid (l = bl f n) := by
    show _ = _
    have := bl_self l
    rw [HN.out] at this
    rw [← this]
    exact bl_congr (fun i hi => (hf i).symm)
  have CZ : Hid (ce g f 0 = f) := rfl
  have IZ : Hid (∀ i, ci g f i 0 = ce g f i) := fun i => ci_zero g f i
  have IA : Hid (∀ i, ce g f i i = true → ci g f i (g.log2 + 1) = ce g f (i + 1)) := fun i h => ci_all h
  have CN : Hid (∀ i, ce g f i i = false → ce g f (i + 1) = ce g f i) := fun i h => ce_no h
  have IY : Hid (∀ i q, g.testBit (g.log2 - q) = true → (bl (ci g f i q) n).set (i + q) (!(ci g f i q (i + q))) = bl (ci g f i (q + 1)) n) := fun i q h => bl_set (fun j _ => ci_yes h j)
  have IN : Hid (∀ i q, g.testBit (g.log2 - q) = false → ci g f i (q + 1) = ci g f i q) := fun i q h => ci_no h
  have BT : Hid (∀ (i : Nat) W, i < 32 → Calls Try.prog 25 #[.int .u32 g, .int .i64 i] W fun e w' => e = .returned (.bool (g.testBit i)) ∧ w' = W) := fun i W hi => bit_any g i (by omega) hi W
  have DG : Hid (∀ W, Calls Try.prog 24 #[.int .u32 g] W fun e w' => e = .returned (.int .i64 (g.log2 : Nat)) ∧ w' = W) := fun W => refDegree_any g (by omega) W
  rw [hn, hcc] at hv
  rw [hv, hr]
  have HV : Hid (Value.slice (some pa) n c = x.v) := hv.symm
  rw [hn] at hl h0
  clear hv hx hll hn hcc hf hr hg er rlt rlt2
  generalize g.log2 = d at *
  generalize ce g f = C at *
  generalize ci g f = I at *
  generalize sd r n = R at *
  go_enter Try.func15, Try.ntmps15
  go_wp2_with (at_builtin; refine wpList_appendBits rfl _ _ rfl w _ _ (by rfl) [] HO.out x (by exact HV.out) HX.out HB.out ?_; intro v' w2 B2; rw [List.nil_append, HM.out] at B2; obtain ⟨B, cap, rest, rfl, hg, hcap, hmax, hR1, hrest⟩ := B2.row (by rw [HN.out]; exact h0); rw [HN.out] at hcap hrest ⊢; have HR1 : Hid (RB w2 B (bl (C 0) n) rest) := (by show RB _ _ _ _; rw [CZ.out, ← HF.out]; exact hR1); have HE1 : Hid (Ext w w2) := B2.1; unfold maxLen at hmax; clear B2 hR1 HO HX HB HM HV HF)
  refine (DG.out w2).mono ?_
  rintro e w3 ⟨rfl, rfl⟩
  clear DG
  go_wp2
  go_loopg [7] n (fun gg s7 wr => ∃ i : Nat, (i = 0 ∨ i + d ≤ n) ∧ n - i ≤ gg ∧ s7 = .int .i64 i ∧ Aside (Ext w wr) ∧ Aside (RB wr B (bl (C i) n) rest))
  case atStart => exact ⟨0, .inl rfl, by omega, rfl, HE1.out, HR1.out⟩
  case round =>
    obtain ⟨i, hi, hgg, rfl, E, X⟩ := hrel
    by_cases hlt : i + d < n
    · have hltz : (i : Int) + (d : Int) < (n : Int) := by omega
      have e1 := X.out.cell i (by rw [bl_len]; omega)
      rw [bl_at _ (by omega)] at e1
      have hi1000 : i < 1000 := by omega
      have ia := IA.out i
      have iz := IZ.out i
      have cn := CN.out i
      cases hc : C i i
      · rw [hc] at e1
        have nx : Hid (C (i + 1) = C i) := cn hc
        clear HE R0 RA RN RY IY IN BT IZ IA CN ia iz cn hc HR1 HE1
        go_wp2
        go_roundg (n - (i + 1))
        case measure => omega
        case rel => exact ⟨i + 1, .inr (by omega), by omega, by go_num, E.out, by show RB _ _ _ _; rw [nx.out]; exact X.out⟩
      · rw [hc] at e1
        have nx : Hid (I i (d + 1) = C (i + 1)) := ia hc
        have X0 : Hid (RB wr B (bl (I i 0) n) rest) := by show RB _ _ _ _; rw [iz]; exact X.out
        have E0 : Hid (Ext w wr) := E.out
        have IY' : Hid (∀ q, g.testBit (d - q) = true → (bl (I i q) n).set (i + q) (!(I i q (i + q))) = bl (I i (q + 1)) n) := fun q h => IY.out i q h
        have IN' : Hid (∀ q, g.testBit (d - q) = false → I i (q + 1) = I i q) := fun q h => IN.out i q h
        clear HE R0 RA RN RY IY IN IZ IA CN ia iz cn hc HR1 HE1 E X
        generalize I i = J at *
        go_wp2
        go_loopg [8] (d + 1) (fun gq s8 wq => ∃ q : Nat, q ≤ d + 1 ∧ d + 1 - q ≤ gq ∧ s8 = .int .i64 q ∧ Aside (Ext w wq) ∧ Aside (RB wq B (bl (J q) n) rest))
        case atStart => exact ⟨0, Nat.zero_le _, by omega, rfl, E0.out, X0.out⟩
        case round =>
          obtain ⟨q, hq, hgq, rfl, E, X⟩ := hrel
          by_cases hlq : q ≤ d
          · have hqz : (q : Int) ≤ (d : Int) := by omega
            have c1 := BT.out (d - q) wr (by omega)
            rw [Int.natCast_sub hlq] at c1
            have iy := IY'.out q
            have inn := IN'.out q
            clear BT IY' IN' E0 X0 nx
            cases hb : g.testBit (d - q)
            · rw [hb] at c1
              have nx : Hid (J (q + 1) = J q) := inn hb
              clear iy inn hb
              go_wp2_with fail
              refine c1.mono ?_
              rintro e w' ⟨rfl, rfl⟩
              clear c1
              go_wp2
              go_roundg (d + 1 - (q + 1))
              case measure => omega
              case rel => exact ⟨q + 1, by omega, by omega, by go_num, E.out, by show RB _ _ _ _; rw [nx.out]; exact X.out⟩
            · rw [hb] at c1
              have nx := iy hb
              have e2 := X.out.cell (i + q) (by rw [bl_len]; omega)
              rw [bl_at _ (by omega)] at e2
              have f2 := Row.fr X.out (i + q)
              have nX : Hid (RB (wr.setCell ⟨B, i + q, none⟩ (.bool (!(J q (i + q))))) B (bl (J (q + 1)) n) rest) := by
                show RB _ _ _ _
                rw [← nx]
                exact X.out.set (i + q) (by rw [bl_len]; omega) _
              have nE : Hid (Ext w (wr.setCell ⟨B, i + q, none⟩ (.bool (!(J q (i + q)))))) := E.out.setCell hg _
              clear iy inn hb nx X E
              generalize J q (i + q) = b0 at *
              go_wp2_with fail
              refine c1.mono ?_
              rintro e w' ⟨rfl, rfl⟩
              clear c1
              go_wp2
              go_roundg (d + 1 - (q + 1))
              case measure => omega
              case rel => exact ⟨q + 1, by omega, by omega, by go_num, nE.out, nX.out⟩
          · obtain rfl : q = d + 1 := by omega
            have hqz : ¬ ((d : Int) + 1) ≤ (d : Int) := by omega
            have F : Hid (RB wr B (bl (C (i + 1)) n) rest) := by show RB _ _ _ _; rw [← nx.out]; exact X.out
            clear BT IY' IN' E0 X0 nx X
            go_wp2
            go_roundg (n - (i + 1))
            case measure => omega
            case rel => exact ⟨i + 1, .inr (by omega), by omega, by go_num, E.out, F.out⟩
    · have hltz : ¬ (i : Int) + (d : Int) < (n : Int) := by omega
      obtain rfl : i = n - d := by omega
      have E0 : Hid (Ext w wr) := E.out
      have X0 : Hid (RB wr B (bl (C (n - d)) n) rest) := X.out
      have HE' : Hid (∀ j, j < n → C (n - d) j = r.testBit (n - 1 - j)) := HE.out
      clear IY IN BT IZ IA CN HR1 HE1 E X HE
      generalize C (n - d) = Z at *
      go_wp2
      go_loopg [9, 10] n (fun gq s9 s10 wq => ∃ k : Nat, k ≤ n ∧ n - k ≤ gq ∧ s10 = .int .i64 k ∧ s9 = .int .u32 (R k : Nat) ∧ wq = wr)
      case atStart => exact ⟨0, Nat.zero_le _, by omega, rfl, by rw [R0.out]; rfl, rfl⟩
      case round =>
        obtain ⟨k, hk, hgk, rfl, rfl, rfl⟩ := hrel
        by_cases hlk : k < n
        · have hkz : (k : Int) < (n : Int) := by omega
          have e1 := X0.out.cell k (by rw [bl_len]; omega)
          rw [bl_at _ hlk, HE'.out k hlk] at e1
          have rn := RN.out k hlk
          have ry := RY.out k hlk
          clear HE' R0 RA RN RY X0 E0
          cases hb : r.testBit (n - 1 - k)
          · rw [hb] at e1
            have nx : Hid (R (k + 1) = R k) := rn hb
            clear rn ry hb
            generalize R k = y at *
            go_wp2
            go_roundg (n - (k + 1))
            case measure => omega
            case rel => exact ⟨k + 1, by omega, by omega, by go_num, by rw [nx.out], rfl⟩
          · rw [hb] at e1
            obtain ⟨ry1, ry2, ry3⟩ := ry hb
            have nx : Hid (R (k + 1) = R k + 2 ^ (n - 1 - k)) := ry2
            have fin : Hid (((R k : Nat) + (2 : Int) ^ (n - 1 - k) % 4294967296) % 4294967296 = ((R k + 2 ^ (n - 1 - k) : Nat) : Int)) := by
              show _ = _
              have e : (2 : Int) ^ (n - 1 - k) = ((2 ^ (n - 1 - k) : Nat) : Int) := by rw [Int.natCast_pow]; rfl
              rw [e]
              generalize 2 ^ (n - 1 - k) = M at *
              omega
            clear rn ry hb ry2 ry3
            generalize R k = y at *
            go_wp2
            go_roundg (n - (k + 1))
            case measure => omega
            case rel => exact ⟨k + 1, by omega, by omega, by go_num, by rw [nx.out, fin.out], rfl⟩
        · obtain rfl : k = n := by omega
          have hkz : ¬ (k : Int) < (k : Int) := by omega
          have ra := RA.out
          clear HE' R0 RA RN RY X0
          go_wp2
          go_ret
          exact ⟨rfl, E0.out⟩

theorem refRest_none (g : Nat) (hg : G g) (x : Wd) (h0 : x.l.length = 0) (w : World) (hx : Bits w x) : Calls Try.prog 15 #[.int .u32 g, x.v] w fun e w' => e = .returned (.int .u32 (rs g x.l : Nat)) ∧ Ext w w' := by
  have HX : Hid (Bits (w.alloc (.cells #[] 4)) x) := hx.ext ((Ext.refl w).alloc _)
  have HO : Hid (OwnB w (w.alloc (.cells #[] 4)) (.slice (some ⟨w.heap.size, 0, none⟩) 0 0) []) := OwnB.empty w
  have HB : Hid (([] : List Bool).length + x.l.length ≤ 140737488355328) := by show _ ≤ _; rw [List.length_nil]; omega
  have hl : x.l = [] := List.eq_nil_of_length_eq_zero h0
  have HM : Hid (x.l = []) := hl
  have hd := hg.deg
  have hg1 : g ≤ 131071 := hg.2.2
  have e0 : rs g x.l = 0 := by rw [hl]; rfl
  have DG : Hid (∀ W, Calls Try.prog 24 #[.int .u32 g] W fun e w' => e = .returned (.int .i64 (g.log2 : Nat)) ∧ w' = W) := fun W => refDegree_any g (by omega) W
  rw [e0]
  obtain ⟨a, ha⟩ : ∃ a, x.a = a := ⟨_, rfl⟩
  obtain ⟨c, hc⟩ : ∃ c, x.c = c := ⟨_, rfl⟩
  have hv : x.v = .slice a 0 c := by rw [Wd.v, h0, ha, hc]
  rw [hv]
  have HV : Hid (Value.slice a 0 c = x.v) := hv.symm
  clear hv hx hl h0 e0 ha hc hg
  generalize g.log2 = d at *
  go_enter Try.func15, Try.ntmps15
  go_wp2_with (at_builtin; refine wpList_appendBits rfl _ _ rfl w _ _ (by rfl) [] HO.out x (by exact HV.out) HX.out HB.out ?_; intro v' w2 B2; rw [List.nil_append, HM.out] at B2; obtain ⟨a2, c2, rfl⟩ := B2.form; have HE1 : Hid (Ext w w2) := B2.1; clear B2 HO HX HB HM HV)
  refine (DG.out w2).mono ?_
  rintro e w3 ⟨rfl, rfl⟩
  clear DG
  have hdn : ¬ (d : Int) < 0 := by omega
  go_wp2
  go_loopg [7] 1 (fun gg s7 wr => s7 = .int .i64 0 ∧ wr = w3)
  case atStart => exact ⟨rfl, rfl⟩
  case round =>
    obtain ⟨rfl, rfl⟩ := hrel
    go_wp2
    go_loopg [9, 10] 1 (fun gg s9 s10 wq => s9 = .int .u32 0 ∧ s10 = .int .i64 0 ∧ wq = wr)
    case atStart => exact ⟨rfl, rfl, rfl⟩
    case round =>
      obtain ⟨rfl, rfl, rfl⟩ := hrel
      go_wp2
      go_ret
      exact ⟨rfl, HE1.out⟩

theorem refRest_any (g : Nat) (hg : G g) (x : Wd) (hl : x.l.length ≤ 1000) (w : World) (hx : Bits w x) : Calls Try.prog 15 #[.int .u32 g, x.v] w fun e w' => e = .returned (.int .u32 (rs g x.l : Nat)) ∧ Ext w w' := by
  by_cases h0 : x.l.length = 0
  · exact refRest_none g hg x h0 w hx
  · exact refRest_some g hg x (by omega) hl w hx

end Go.Proofs.Ytfngcoijbnhheaa
