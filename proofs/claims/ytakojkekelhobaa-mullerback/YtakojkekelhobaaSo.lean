/-
  muller.sumOf.
-/
import Derived.Test.YtakojkekelhobaaUp
import Derived.Test.YtakojkekelhobaaVo
namespace Go.Proofs.Ytakojkekelhobaa
open Go.RowKit
set_option linter.unusedVariables false

theorem wi_yes {p x : Nat} (h : wi p x = true) : p - (p &&& x) = 0 := by
  have : p &&& x = p := beq_iff_eq.1 h
  omega
theorem wi_no {p x : Nat} (h : wi p x = false) : ¬ p - (p &&& x) = 0 := by
  have h1 : ¬ p &&& x = p := beq_eq_false_iff_ne.1 h
  have h2 : p &&& x ≤ p := Nat.and_le_left
  omega

set_option maxHeartbeats 2000000 in
theorem sumOf_any (m : Nat) (hm : m ≤ 4) (y : Um) (d : Wd) (hl : d.l.length = y.z.length) (hn : y.z.length ≤ 16) (hz : ∀ i, i < y.z.length → y.z.getD i 0 < 16) (w : World) (hy : Us w y) (hd : Bits w d) :
    Calls Try.prog 20 #[.int .i64 m, y.v, d.v] w fun e w' => ∃ x : Wd, e = .returned x.v ∧ x.l = bl (fun x => xs (fun i => d.l.getD i false && wi (y.z.getD i 0) x) y.z.length) (2 ^ m) ∧ Bits w' x ∧ Ext w w' ∧ x.a = some ⟨w.heap.size, 0, none⟩ := by
  have pw := pow_four m hm
  have lim := pow_lim hm
  obtain ⟨a, c, z⟩ := y
  obtain ⟨a2, c2, l⟩ := d
  obtain ⟨h1, h2, _, b, o, h4, h5⟩ := hy
  obtain ⟨q1, q2, _, b2, o2, q4, q5⟩ := hd
  simp only at h1 h2 h4 h5 q1 q2 q4 q5 hl hz hn
  simp only [Um.v, Wd.v]
  rw [hl] at q1 q4 q5 ⊢
  obtain ⟨P, hP⟩ : ∃ P : Nat → Nat, ∀ i, P i = z.getD i 0 := ⟨_, fun _ => rfl⟩
  obtain ⟨D, hD⟩ : ∃ D : Nat → Bool, ∀ i, D i = l.getD i false := ⟨_, fun _ => rfl⟩
  obtain ⟨G, hG⟩ : ∃ G : Nat → Nat → Bool, ∀ k x, G k x = xs (fun i => D i && wi (P i) x) k := ⟨_, fun _ _ => rfl⟩
  obtain ⟨H, hH⟩ : ∃ H : Nat → Nat → Nat → Bool, ∀ k j i, H k j i = if i < j then G (k + 1) i else G k i := ⟨_, fun _ _ _ => rfl⟩
  have EG : (fun x => xs (fun i => l.getD i false && wi (z.getD i 0) x) z.length) = G z.length := by
    funext x
    rw [hG]
    exact xs_congr _ (fun i _ => by rw [hD, hP])
  rw [EG]
  have HC : Hid (∀ i, i < z.length → w.cell? ⟨b, o + i, none⟩ = some (.int .u32 (P i : Nat))) := fun i hi => by rw [hP]; exact h5 i hi
  have HB : Hid (∀ i, i < z.length → w.cell? ⟨b2, o2 + i, none⟩ = some (.bool (D i))) := fun i hi => by rw [hD]; exact q5 i hi
  have HL : Hid (∀ i, i < z.length → P i < 16) := fun i hi => by rw [hP]; exact hz i hi
  have G0 : Hid (∀ x, G 0 x = false) := fun x => by rw [hG]; rfl
  have GN : Hid (∀ k x, G (k + 1) x = (G k x != (D k && wi (P k) x))) := fun k x => by rw [hG, hG]; rfl
  have H0 : Hid (∀ k, H k 0 = G k) := fun k => funext (fun i => by rw [hH]; exact if_neg (by omega))
  have HE : Hid (∀ k i, i < 2 ^ m → H k (2 ^ m) i = G (k + 1) i) := fun k i hi => by rw [hH]; exact if_pos hi
  have HN : Hid (∀ k j i, H k (j + 1) i = if i = j then G (k + 1) j else H k j i) := fun k j i => by
    rw [hH, hH]
    by_cases e : i = j
    · rw [if_pos (show i < j + 1 by omega), if_pos e, e]
    · rw [if_neg e]
      by_cases h : i < j
      · rw [if_pos h, if_pos (show i < j + 1 by omega)]
      · rw [if_neg h, if_neg (show ¬ i < j + 1 by omega)]
  have HJ : Hid (∀ k j, H k j j = G k j) := fun k j => by rw [hH]; exact if_neg (by omega)
  clear h5 q5 EG hP hD hG hH hz hl
  unfold maxLen at h2 q2
  generalize z.length = n at *
  generalize 2 ^ m = M at *
  have hmk := run_make_row' (P := Try.prog) 29 4 (.bool false) 1 Try.underlying29 info4 rfl .i64 .i64 M (by omega) (by omega)
  have st : Hid (∃ W, W = w.alloc (.cells (madeCells #[.bool false] M) 4) ∧ Ext w W ∧ Row W w.heap.size 4 (bf (G 0) M)) :=
    ⟨_, rfl, (Ext.refl w).alloc _, Row.madeF w 4 (.bool false) M _ (fun i _ => by rw [G0.out])⟩
  go_enter Try.func20, Try.ntmps20
  go_wp2
  obtain ⟨W, hW, hE, hR⟩ := st.out
  rw [← hW]
  have HE1 : Hid (Ext w W) := hE
  have HR1 : Hid (Row W w.heap.size 4 (bf (G 0) M)) := hR
  clear hW hE hR st hmk pw
  go_loopg [17] n (fun gg s17 wr => ∃ k : Nat, k ≤ n ∧ n - k ≤ gg ∧ s17 = .int .i64 k ∧ Aside (Ext w wr) ∧ Aside (Row wr w.heap.size 4 (bf (G k) M)))
  case atStart => exact ⟨0, Nat.zero_le _, by omega, rfl, HE1.out, HR1.out⟩
  case round =>
    obtain ⟨k, hk, hgg, rfl, E, X⟩ := hrel
    clear HE1 HR1
    by_cases hlt : k < n
    · have hltz : (k : Int) < (n : Int) := by omega
      obtain rfl := h4 (by omega)
      obtain rfl := q4 (by omega)
      have e1 := E.out.cell (HC.out k hlt)
      have hPk := HL.out k hlt
      have HD : Hid (∀ W, Ext w W → W.cell? ⟨b2, o2 + k, none⟩ = some (.bool (D k))) := fun W E => E.cell (HB.out k hlt)
      have X0 : Hid (Row wr w.heap.size 4 (bf (H k 0) M)) := by show Row _ _ _ _; rw [H0.out]; exact X.out
      have E0 : Hid (Ext w wr) := E.out
      have gn := GN.out k
      have GN' : Hid (∀ x, G (k + 1) x = (G k x != (D k && wi (P k) x))) := gn
      have HN' : Hid (∀ j i, H k (j + 1) i = if i = j then G (k + 1) j else H k j i) := HN.out k
      have HJ' : Hid (∀ j, H k j j = G k j) := HJ.out k
      have HE' : Hid (∀ i, i < M → H k M i = G (k + 1) i) := HE.out k
      clear gn GN HN HJ HE H0 HL HC HB E X G0 h4 q4
      generalize P k = p at *
      generalize D k = dk at *
      go_wp2
      clear e1
      go_loopg [24] M (fun gg s24 wr => ∃ j : Nat, j ≤ M ∧ M - j ≤ gg ∧ s24 = .int .i64 j ∧ Aside (Ext w wr) ∧ Aside (Row wr w.heap.size 4 (bf (H k j) M)))
      case atStart => exact ⟨0, Nat.zero_le _, by omega, rfl, E0.out, X0.out⟩
      case round =>
        obtain ⟨j, hj, hgj, rfl, E, X⟩ := hrel
        clear E0 X0
        by_cases hlj : j < M
        · have hjz : (j : Int) < (M : Int) := by omega
          have ea := not_at (a := p) (b := j) hPk (by omega)
          have e2 := X.out.cellF j hlj
          have f2 := X.out.fr j
          have e3 := HD.out wr E.out
          rw [HJ'.out] at e2
          have nX : Hid (Row (wr.setCell ⟨w.heap.size, j, none⟩ (.bool (G (k + 1) j))) w.heap.size 4 (bf (H k (j + 1)) M)) := X.out.setF _ _ (fun i hi => by
            rw [HN'.out]
            by_cases e : i = j
            · rw [if_pos e, if_pos e]
            · rw [if_neg e, if_neg e])
          have nE : Hid (Ext w (wr.setCell ⟨w.heap.size, j, none⟩ (.bool (G (k + 1) j)))) := E.out.setCell (Nat.le_refl _) _
          rw [GN'.out] at nX nE
          clear HN' HJ' HE' HD X E
          generalize G k j = u at *
          cases hw : wi p j
          · have ht := wi_no hw
            rw [hw] at nX nE
            clear hw GN'
            generalize p - (p &&& j) = t at *
            have hti : ((t : Int) == 0) = false := beq_eq_false_iff_ne.2 (by omega)
            cases dk <;> cases u
            all_goals
              go_wp2
              go_region
              all_goals
                go_wp2
                go_roundg (M - (j + 1))
                case measure => omega
                case rel => exact ⟨j + 1, by omega, by omega, by go_num, nE.out.drewN 1, Row.ext nX.out ((Ext.refl _).drewN 1)⟩
          · have ht := wi_yes hw
            rw [hw] at nX nE
            clear hw GN'
            generalize p - (p &&& j) = t at *
            have hti : ((t : Int) == 0) = true := beq_iff_eq.2 (by omega)
            cases dk <;> cases u
            all_goals
              go_wp2
              go_region
              all_goals
                go_wp2
                go_roundg (M - (j + 1))
                case measure => omega
                case rel => exact ⟨j + 1, by omega, by omega, by go_num, nE.out.drewN 1, Row.ext nX.out ((Ext.refl _).drewN 1)⟩
        · obtain rfl : j = M := by omega
          have hjz : ¬ (j : Int) < (j : Int) := by omega
          have nX : Hid (Row wr w.heap.size 4 (bf (G (k + 1)) j)) := by
            have h := X.out
            have e : bf (H k j) j = bf (G (k + 1)) j := List.map_congr_left (fun i hi => by rw [HE'.out i (List.mem_range.1 hi)])
            rw [e] at h
            exact h
          have nE : Hid (Ext w wr) := E.out
          clear HN' HJ' HE' HD X E GN'
          go_wp2
          go_roundg (n - (k + 1))
          case measure => omega
          case rel => exact ⟨k + 1, by omega, by omega, by go_num, nE.out, nX.out⟩
    · obtain rfl : k = n := by omega
      have hltz : ¬ (k : Int) < (k : Int) := by omega
      have nX : Hid (Bits wr ⟨some ⟨w.heap.size, 0, none⟩, M, bl (G k) M⟩) := by
        have h := X.out
        rw [bf_bv] at h
        have := h.bits (by rw [bl_len]; unfold maxLen; omega)
        rw [bl_len] at this
        exact this
      have nE : Hid (Ext w wr) := E.out
      clear X E HC HB HL G0 GN H0 HE HN HJ
      go_wp2
      go_ret
      exact ⟨⟨some ⟨w.heap.size, 0, none⟩, M, bl (G k) M⟩, by show _ = Ending.returned (.slice _ (bl (G k) M).length M); rw [bl_len]; rfl, rfl, nX.out, nE.out, rfl⟩

end Go.Proofs.Ytakojkekelhobaa
