/-
  quipulaw.fixed: what the document's Fix tells.
-/
import Derived.Test.YtdplmaofapnhhaaDat
namespace Go.Proofs.Ytdplmaofapnhhaa
open Go.RowKit
set_option linter.unusedVariables false

set_option maxHeartbeats 2000000 in
theorem fixed_any {r : Nat} (hr : R r) (x : Wd) (hlr : x.l.length = 2 ^ r - 1) (w : World) (hx : Bits w x) :
    Calls Try.prog 14 #[.int .i64 r, x.v] w fun e w' => ∃ v, e = .returned (.tuple #[v, .int .i64 (pf 1 x.l : Nat)]) ∧ OwnB w w' v (dt 1 (fx x.l)) := by
  have h15 : 1 ≤ 2 ^ r - 1 ∧ 2 ^ r - 1 ≤ 15 := by obtain rfl | rfl | rfl := hr.cases <;> decide
  have hpl : pf 1 x.l < 2 ^ r := pf_lt r _ _ (by omega)
  have c1 := pointer_any hr x (by omega) hpl w hx
  obtain ⟨pa, hv⟩ := hx.some (by omega)
  have HX : Hid (Bits (w.alloc (.cells #[] 4)) x) := hx.ext ((Ext.refl w).alloc _)
  have HO : Hid (OwnB w (w.alloc (.cells #[] 4)) (.slice (some ⟨w.heap.size, 0, none⟩) 0 0) []) := OwnB.empty w
  have HB : Hid (([] : List Bool).length + x.l.length ≤ 140737488355328) := by show _ ≤ _; rw [List.length_nil]; omega
  obtain ⟨l, hl⟩ : ∃ l, x.l = l := ⟨_, rfl⟩
  obtain ⟨L, hL⟩ : ∃ L, L = fx l := ⟨_, rfl⟩
  obtain ⟨n, hn⟩ : ∃ n, x.l.length = n := ⟨_, rfl⟩
  obtain ⟨c, hc⟩ : ∃ c, x.c = c := ⟨_, rfl⟩
  obtain ⟨p, hpp⟩ : ∃ p, pf 1 l = p := ⟨_, rfl⟩
  have HN : Hid (l.length = n) := by show _ = _; rw [← hl, hn]
  have HL : Hid (L.length = n) := by show _ = _; rw [hL, fx_len, HN.out]
  have FX0 : Hid (p = 0 → L = l) := fun h => by rw [hL]; exact if_pos (by rw [hpp, h])
  have FX1 : Hid (p ≠ 0 → L = l.set (p - 1) (!(l.getD (p - 1) false))) := fun h => by rw [hL]; unfold fx; rw [hpp, if_neg h]
  have hD : Hid (∀ g cap rest W, RB W g L rest → L.length + rest.length = cap → cap ≤ maxLen → Calls Try.prog 26 #[.slice (some ⟨g, 0, none⟩) n cap] W fun e w' => ∃ v, e = .returned v ∧ OwnB W w' v (dt 1 L)) := fun g cap rest W hR h1 h2 => by
    have := data_any ⟨some ⟨g, 0, none⟩, cap, L⟩ (by show L.length ≤ 15; rw [HL.out]; omega) W (hR.bits h1 h2)
    simp only [Wd.v, HL.out] at this
    exact this
  have HM : Hid (x.l = l) := hl
  rw [hl, ← hL, hpp]
  have hv' : x.v = .slice (some pa) n c := by rw [hv, hn, hc]
  have HV : Hid (Value.slice (some pa) n c = x.v) := hv'.symm
  rw [hl, hpp, hv'] at c1
  rw [hv']
  have hm1 : n ≤ c := by rw [← hn, ← hc]; exact hx.1
  have hm2 : c ≤ maxLen := by rw [← hc]; exact hx.2.1
  have hp : p ≤ n := by rw [← hpp, ← hl]; omega
  have h0 : 0 < n := by omega
  have hn15 : n ≤ 15 := by omega
  have hr4 : (r : Int) ≤ 4 := by have := hr.2; omega
  unfold maxLen at hm2
  clear hL hpp hn hx hl hc hv hv' hlr hpl h15 hr
  go_enter Try.func14, Try.ntmps14
  go_wp2_with fail
  refine c1.mono ?_
  rintro e w1 ⟨rfl, rfl⟩
  clear c1
  by_cases hp0 : p = 0
  · subst hp0
    have FX : Hid (L = l) := FX0.out rfl
    clear FX0 FX1
    go_wp2_with (at_builtin; refine wpList_appendBits rfl _ _ rfl w1 _ _ (by rfl) [] HO.out x (by exact HV.out) HX.out HB.out ?_; intro v' w2 B; rw [List.nil_append, HM.out] at B; obtain ⟨g, cap, rest, rfl, hg, hcap, hmax, hR1, hrest⟩ := B.row (by rw [HN.out]; exact h0); rw [HN.out] at hcap ⊢; have HR1 : Hid (RB w2 g l rest) := hR1; have HE1 : Hid (Ext w1 w2) := B.1; have HT : Hid (l.length + rest.length = cap ∧ cap ≤ maxLen) := ⟨hrest, hmax⟩; unfold maxLen at hmax; clear B hR1 hrest; skip)
    have HR2 : Hid (RB w2 g L rest) := by show RB _ _ _ _; rw [FX.out]; exact HR1.out
    have c2 := hD.out g cap rest w2 HR2.out (by rw [HL.out, ← HN.out]; exact HT.out.1) HT.out.2
    clear hD HR1 HT FX
    go_wp2_with fail
    refine c2.mono ?_
    rintro e w3 ⟨v3, rfl, O3⟩
    have F : Hid (OwnB w1 w3 v3 (dt 1 L)) := OwnB.base HE1.out O3
    clear O3 c2 HE1 HR2
    go_wp2
    go_ret2
    exact ⟨_, rfl, F.out⟩
  · have hi : p - 1 < n := by omega
    obtain ⟨q, rfl⟩ : ∃ q, p = q + 1 := ⟨p - 1, by omega⟩
    rw [Nat.add_sub_cancel] at *
    rw [Int.natCast_add] at *
    obtain ⟨b0, hb0⟩ : ∃ b0, l.getD q false = b0 := ⟨_, rfl⟩
    have FX2 : Hid (L = l.set q (!b0)) := by show _ = _; rw [FX1.out hp0, hb0]
    have HQ : Hid (l.getD q false = b0) := hb0
    clear FX0 FX1 hb0
    go_wp2_with (at_builtin; refine wpList_appendBits rfl _ _ rfl w1 _ _ (by rfl) [] HO.out x (by exact HV.out) HX.out HB.out ?_; intro v' w2 B; rw [List.nil_append, HM.out] at B; obtain ⟨g, cap, rest, rfl, hg, hcap, hmax, hR1, hrest⟩ := B.row (by rw [HN.out]; exact h0); rw [HN.out] at hcap ⊢; have HR1 : Hid (RB w2 g l rest) := hR1; have HE1 : Hid (Ext w1 w2) := B.1; have HT : Hid (l.length + rest.length = cap ∧ cap ≤ maxLen) := ⟨hrest, hmax⟩; unfold maxLen at hmax; clear B hR1 hrest; have e1 := HR1.out.cell q (by rw [HN.out]; exact hi); rw [HQ.out] at e1; have f1 := Row.fr HR1.out q)
    have HE3 : Hid (Ext w1 (w2.setCell ⟨g, q, none⟩ (.bool (!b0)))) := HE1.out.setCell hg _
    have HR3 : Hid (RB (w2.setCell ⟨g, q, none⟩ (.bool (!b0))) g L rest) := by
      show RB _ _ _ _
      rw [FX2.out]
      exact HR1.out.set q (by rw [HN.out]; exact hi) _
    have c2 := hD.out g cap rest _ HR3.out (by rw [HL.out, ← HN.out]; exact HT.out.1) HT.out.2
    generalize w2.setCell ⟨g, q, none⟩ (.bool (!b0)) = W3 at *
    clear hD HR1 HT FX2 HQ
    go_wp2_with fail
    refine c2.mono ?_
    rintro e w3 ⟨v3, rfl, O3⟩
    have F : Hid (OwnB w1 w3 v3 (dt 1 L)) := OwnB.base HE3.out O3
    clear O3 c2 HE3 HR3
    go_wp2
    go_ret2
    exact ⟨_, rfl, F.out⟩

end Go.Proofs.Ytdplmaofapnhhaa
