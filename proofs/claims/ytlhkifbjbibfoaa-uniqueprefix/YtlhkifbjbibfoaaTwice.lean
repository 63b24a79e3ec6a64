/-
  The program's search: two texts that are alike, or none.
-/
import Derived.Test.YtlhkifbjbibfoaaTw
import Derived.Test.YtlhkifbjbibfoaaSteps
namespace Go.Proofs.Ytlhkifbjbibfoaa
open Go.RowKit Go.Maps

theorem law3 : Keyed Try.prog 3 := int_keyed Try.underlying3
theorem zero3 (w : World) : (zeroValue 3).run Try.prog w = .ok (.int .i64 0) w := by kernel_rfl
theorem under44 : Try.prog.underlying 44 = some (.map 3 3) := by kernel_rfl

theorem erl_zero {g : List Wd} (h : erl g = 0) : g.length ≤ 8 ∧ ∀ x ∈ g, x.l.length ≤ 8 := by
  have h1 : g.length ≤ 8 := by
    rcases Nat.lt_or_ge 8 g.length with h' | h'
    · rw [erl_long h'] at h; cases h
    · exact h'
  refine ⟨h1, fun x hx => ?_⟩
  rcases Nat.lt_or_ge 8 x.l.length with h' | h'
  · rw [erl_word hx h'] at h; cases h
  · exact h'

/-- The search's memory: the races, and the map of the tails that were seen. -/
def Mem (g : List Wd) (w wr : World) (v : Value) (B i kk : Nat) : Prop :=
  ∃ R K D, Races w w wr v R ∧ wr.ownsMap Try.prog 3 (plainElem Try.prog 3) B K.length D ∧ Tw (wl g) R K D i ∧ K.length = kk ∧ w.heap.size ≤ B

/-- A map's block is no row's. -/
theorem row_map {w : World} {b0 sz n0 n b : Nat} {e k : TypeId} {v : Value} {xs : List Value} {R : Value → Option (DataW Unit × List MemPlace)} {D : Seen} (h : w.ownsRow b0 e sz v n0 xs) (hm : w.ownsMap Try.prog k R b n D) : v.ownBlock ≠ some b := by
  obtain ⟨es, cl, hb, _⟩ := hm
  rcases h.2 with ⟨rfl, _⟩ | ⟨g, cap, cur, rfl, _, hh, _⟩
  · simp [Value.ownBlock]
  · simp only [Value.ownBlock, ne_eq, Option.some.injEq]
    intro e
    rw [e, hb] at hh
    cases hh

/-- A store into a map leaves the races as they are. -/
theorem Races.stored {wc w0 w w' : World} {v : Value} {R : List Rc} {Q : Value → Option (DataW Unit × List MemPlace)} {k : TypeId} {b n : Nat} {D : Seen} (h : Races wc w0 w v R) (hm : w.ownsMap Try.prog k Q b n D) (hg : w.grownBy w' (some b)) (hb : w0.heap.size ≤ b) : Races wc w0 w' v R := by
  have kept : ∀ {b0 sz n0 : Nat} {e : TypeId} {v : Value} {xs : List Value}, w.ownsRow b0 e sz v n0 xs → w'.ownsRow b0 e sz v n0 xs := fun hl => World.ownsRow.kept hl hg (Or.inr (row_map hl hm))
  refine ⟨?_, kept h.own, fun r hr => ⟨kept (h.ok r hr).b, kept (h.ok r hr).a, (h.ok r hr).t⟩⟩
  exact Below.grown h.ext hg h.ext.size (fun k hk => by injection hk with hk; omega)

set_option maxHeartbeats 2000000 in
theorem twice_good (a : Option Addr) (c : Nat) (g : List Wd) (w : World) (hg : Wds w a c g) (h0 : erl g = 0) :
    Calls Try.prog 11 #[.slice a g.length c] w fun e w' => Ext w w' ∧ ∃ x y : Nm, Nums w' x ∧ Nums w' y ∧
      ((e = .returned (.tuple #[x.v, y.v, .int .i64 5]) ∧ Uniq (wl g) ∧ x.z = [] ∧ y.z = []) ∨ (e = .returned (.tuple #[x.v, y.v, .int .i64 0]) ∧ Good (wl g) x.z y.z [] ∧ x.z.length + y.z.length ≤ 600)) := by
  have HG : Hid (Wds w a c g) := hg
  have H0 : Hid (erl g = 0) := h0
  have hck := check_any a c g w hg
  rw [h0] at hck
  have h2 := hg.2.1
  have h1 := hg.1
  have HL : Hid (g.length ≤ 8 ∧ ∀ x ∈ g, x.l.length ≤ 8) := erl_zero h0
  unfold maxLen at h2
  obtain ⟨n, hn⟩ : ∃ n, g.length = n := ⟨_, rfl⟩
  have HN : Hid (g.length = n) := hn
  rw [hn] at h1 hck ⊢
  clear hg h0 hn
  have hmm := @run_makeMap Try.prog
  go_enter Try.func11, Try.ntmps11
  go_upto_region 4 with (go_at_call 22; refine hck.mono ?_; rintro e w1 ⟨rfl, hb⟩)
  have HG1 : Hid (Wds w1 a c g) := HG.out.ext hb
  have E1 : Hid (Ext w w1) := hb
  have hst := starts_any a c g w1 HG1.out HL.out.1 HL.out.2
  rw [HN.out] at hst
  clear hck hb HG
  go_upto_region 5 with (go_at_call 23; refine hst.mono ?_; rintro e w2 ⟨v0, R0, rfl, hR0, hS0⟩)
  have M0 : Hid (Mem g w1 (w2.alloc (.map #[] 0)) v0 w2.heap.size 0 0) :=
    ⟨R0, [], .map [], hR0.mono ((Ext.refl _).alloc _), World.ownsMap_made _ _ _ _, tw_start (by simpa using HL.out.1) hS0, rfl, hR0.ext.size⟩
  obtain ⟨va0, vc0, hv0⟩ := hR0.form
  obtain ⟨m0, hm0⟩ : ∃ m, R0.length = m := ⟨_, rfl⟩
  rw [hm0] at hv0
  have hm1 : m0 ≤ 72 := by
    have h1 := hS0.few
    have h2 := HL.out.1
    simp at h1
    omega
  have M1 : Hid (Mem g w1 (w2.alloc (.map #[] 0)) (.slice va0 m0 vc0) w2.heap.size 0 0) := by rw [← hv0]; exact M0.out
  subst hv0
  clear hst hR0 hS0 M0 hm0
  go_wp2_with fail
  go_loopg [6, 8, 9, 10, 11] 5000 (fun gg v i _ _ _ wr => ∃ (k m kk : Nat) (va : Option Addr) (vc : Nat), i = .int .i64 k ∧ v = .slice va m vc ∧ k ≤ m ∧ kk ≤ 512 ∧ m ≤ 5000 ∧ 9 * (512 - kk) + (m - k) ≤ gg ∧ Aside (Mem g w1 wr (.slice va m vc) w2.heap.size k kk))
  case atStart => exact ⟨0, m0, 0, va0, vc0, rfl, rfl, Nat.zero_le _, by omega, by omega, by omega, M1.out⟩
  case round =>
    obtain ⟨k, m, kk, va, vc, rfl, rfl, hkm, hkk, hm5, hgg, A⟩ := hrel
    clear M1
    by_cases hlt : k < m
    · have hltz : (k : Int) < (m : Int) := by omega
      obtain ⟨R, K, D, hR, hO, hT, hKl, hB⟩ := A.out
      have hRm : R.length = m := by
        obtain ⟨_, _, e⟩ := hR.form
        injection e with _ e _
        exact e.symm
      have hkR : k < R.length := by rw [hRm]; exact hlt
      obtain ⟨G, hva, hG, d0, d1, d2⟩ := hR.at k hkR
      subst hva
      have hok := hR.ok _ (List.getElem_mem hkR)
      have hsd := hT.sound _ (List.getElem_mem hkR)
      have HR : Hid (Races w1 w1 wr (.slice (some ⟨G, 0, none⟩) m vc) R) := hR
      have HO : Hid (wr.ownsMap Try.prog 3 (plainElem Try.prog 3) w2.heap.size K.length D) := hO
      have HT : Hid (Tw (wl g) R K D k) := hT
      obtain ⟨r, hr⟩ : ∃ r, R[k] = r := ⟨_, rfl⟩
      have HRK : Hid (R[k] = r) := hr
      rw [hr] at d0 d1 d2 hok hsd
      have HOK : Hid (RcOk w1 wr r) := hok
      have HSD : Hid (Good (wl g) r.b r.a r.t.l ∧ r.t.l.length ≤ 8 ∧ r.b.length + r.a.length ≤ 2 + K.length) := hsd
      have HKL : Hid (K.length = kk) := hKl
      have HRM : Hid (R.length = m) := hRm
      obtain ⟨rbv, rav, rb, ra, ta, tc, tl⟩ := r
      obtain ⟨ba, bc, hbv⟩ := hok.b.form
      obtain ⟨aa, ac, hav⟩ := hok.a.form
      simp only [Wd.v] at d0 d1 d2 hbv hav HSD
      subst hbv hav
      obtain ⟨nb, hnb⟩ : ∃ nb, rb.length = nb := ⟨_, rfl⟩
      have HNB : Hid (rb.length = nb) := hnb
      obtain ⟨na, hna⟩ : ∃ na, ra.length = na := ⟨_, rfl⟩
      have HNA : Hid (ra.length = na) := hna
      obtain ⟨q, hq⟩ : ∃ q, tl.length = q := ⟨_, rfl⟩
      have HQ : Hid (tl.length = q) := hq
      rw [hnb] at d0
      rw [hna] at d1
      rw [hq] at d2
      rw [hnb, hna] at HRK HOK
      clear A hR hO hT hok hsd hr hnb hna hq hKl hRm
      by_cases hq0 : q = 0
      · subst hq0
        have fin : Hid (∀ W, Ext wr W → Ext w W ∧ ∃ x y : Nm, Nums W x ∧ Nums W y ∧ (x.v = .slice ba nb bc ∧ y.v = .slice aa na ac) ∧ Good (wl g) x.z y.z [] ∧ x.z.length + y.z.length ≤ 600) := by
          intro W hW
          obtain ⟨x, hx, hxz, hxn⟩ := (HOK.out.b.ext hW).nums
          obtain ⟨y, hy, hyz, hyn⟩ := (HOK.out.a.ext hW).nums
          have ht0 : tl = [] := List.eq_nil_of_length_eq_zero HQ.out
          refine ⟨E1.out.trans (HR.out.ext.trans hW), x, y, hxn, hyn, ⟨hx.symm, hy.symm⟩, ?_, ?_⟩
          · simp only at hxz hyz
            rw [hxz, hyz]
            exact ht0 ▸ HSD.out.1
          · simp only at hxz hyz
            rw [hxz, hyz]
            have := HSD.out.2.2
            have := HT.out.many
            omega
        clear HR HO HT HRK HOK HSD
        go_wp2_with fail
        go_quiet (fail)
        go_wp2
        go_ret3
        obtain ⟨f1, x, y, f2, f3, f4, f5, f6⟩ := fin.out _ (((Ext.refl wr).alloc _).drewN nq)
        exact ⟨f1, x, y, f2, f3, Or.inr ⟨by rw [f4.1, f4.2]; rfl, f5, f6⟩⟩
      · have hq0z : ¬ (q : Int) = 0 := by omega
        have hnum := number_any ⟨ta, tc, tl⟩ (wr.alloc (.cells #[.slice ba nb bc, .slice aa na ac, .slice ta q tc] 46)) (HOK.out.t.ext (HR.out.ext.alloc _)) HSD.out.2.1
        have hz : num tl < 512 := num_lt (n := 8) HSD.out.2.1
        simp only [Wd.v] at hnum
        rw [HQ.out] at hnum
        obtain ⟨z, hz'⟩ : ∃ z, num tl = z := ⟨_, rfl⟩
        have HZ : Hid (key tl = .int .i64 (z : Int)) := by show _ = _; rw [key, hz']
        rw [hz'] at hnum hz
        clear hz'
        have hwf : (Lit.int .i64 (z : Int)).wf = true := WalkArith.wf_i64 (by omega)
        have hkey : keyOf Try.prog 3 (.int .i64 (z : Int)) = some (.int .i64 (z : Int)) := keyOf_int_mk Try.underlying3 hwf
        clear hwf
        have HRa : Hid (Races w1 w1 (wr.alloc (.cells #[.slice ba nb bc, .slice aa na ac, .slice ta q tc] 46)) (.slice (some ⟨G, 0, none⟩) m vc) R) := HR.out.mono ((Ext.refl _).alloc _)
        have HOa : Hid ((wr.alloc (.cells #[.slice ba nb bc, .slice aa na ac, .slice ta q tc] 46)).ownsMap Try.prog 3 (plainElem Try.prog 3) w2.heap.size K.length D) := ownsMap_ext HO.out ((Ext.refl _).alloc _)
        have HHK : Hid (Maps.has D (key R[k].t.l) = Maps.has D (.int .i64 (z : Int))) := by
          show _ = _
          rw [HRK.out]
          simp only
          rw [HZ.out]
        cases hh : Maps.has D (.int .i64 (z : Int))
        · have hwk : (Lit.int .i64 (k : Int)).wf = true := WalkArith.wf_i64 (by omega)
          have hKm : K.length < maxLen := by have := HT.out.many; unfold maxLen; omega
          have st : Hid (∀ w3, (wr.alloc (.cells #[.slice ba nb bc, .slice aa na ac, .slice ta q tc] 46)).grownBy w3 (some w2.heap.size) → Races w1 w1 w3 (.slice (some ⟨G, 0, none⟩) m vc) R ∧ RcOk w1 w3 ⟨.slice ba nb bc, .slice aa na ac, rb, ra, ta, tc, tl⟩) := by
            intro w3 hg3
            have hR3 := HRa.out.stored HOa.out hg3 hB
            refine ⟨hR3, ?_⟩
            have := hR3.ok _ (List.getElem_mem hkR)
            rw [HRK.out] at this
            exact this
          have now : Hid (∀ w3, (wr.alloc (.cells #[.slice ba nb bc, .slice aa na ac, .slice ta q tc] 46)).grownBy w3 (some w2.heap.size) → w3.heap[wr.heap.size]? = some (.cells #[.slice ba nb bc, .slice aa na ac, .slice ta q tc] 46 (0, 0))) := by
            intro w3 hg3
            rw [hg3.block wr.heap.size (by simp) ?_]
            · exact heap_alloc_new _ _
            · have := HO.out.lt
              simp only [ne_eq, Option.some.injEq]
              omega
          have calls : Hid (∀ w3, (wr.alloc (.cells #[.slice ba nb bc, .slice aa na ac, .slice ta q tc] 46)).grownBy w3 (some w2.heap.size) → Calls Try.prog 25 #[.slice a n c, .agg #[.slice ba nb bc, .slice aa na ac, .slice ta q tc]] w3 fun e w' => ∃ v R', e = .returned v ∧ Races w1 w3 w' v R' ∧ Sp (wl g) tl (2 + K.length) (wl g).length R') := by
            intro w3 hg3
            obtain ⟨s1, s2⟩ := st.out w3 hg3
            have := steps_any a c g w1 w3 HG1.out s1.ext HL.out.1 HL.out.2 _ s2 (2 + K.length) HSD.out.1 HSD.out.2.1 HSD.out.2.2 (by have := HT.out.many; omega) (fun e => hq0 (by rw [← HQ.out]; simpa using congrArg List.length e))
            simp only [Wd.v] at this
            rw [HN.out, HQ.out] at this
            exact this
          have last : Hid (∀ w3 w4 v R' v' w5, (wr.alloc (.cells #[.slice ba nb bc, .slice aa na ac, .slice ta q tc] 46)).grownBy w3 (some w2.heap.size) → w3.ownsMap Try.prog 3 (plainElem Try.prog 3) w2.heap.size (K.length + 1) (D.put (.int .i64 (z : Int)) (.lit (.int .i64 (k : Int)))) → Races w1 w3 w4 v R' → Sp (wl g) tl (2 + K.length) (wl g).length R' → Races w1 w1 w5 v' (R ++ R') → w4.grownBy w5 (some G) →
              ∃ va' m' vc', v' = .slice va' m' vc' ∧ k + 1 ≤ m' ∧ m' ≤ 5000 ∧ kk + 1 ≤ 512 ∧ m' ≤ m + 8 ∧ Mem g w1 w5 (.slice va' m' vc') w2.heap.size (k + 1) (kk + 1)) := by
            intro w3 w4 v R' v' w5 hg3 hO3 hR4 hS hR5 hg5
            obtain ⟨va', vc', hv'⟩ := hR5.form
            have hO4 := ownsMap_ext hO3 hR4.ext
            have hne : some w2.heap.size ≠ some G := by
              have h3 := (st.out w3 hg3).1.mono hR4.ext
              exact fun e => row_map h3.own hO4 (by rw [e]; rfl)
            have hO5 := hO4.kept hg5 hne
            have htw := tw_new (d := .lit (.int .i64 (k : Int))) HT.out hkR (by rw [HHK.out]; exact hh) (by rw [HRK.out]; exact fun e => hq0 (by rw [← HQ.out]; simpa using congrArg List.length e)) (by simpa using HL.out.1) (R' := R') (by rw [HRK.out]; exact hS)
            simp only [HRK.out] at htw
            rw [HZ.out] at htw
            have hfew := htw.few
            have hmany := htw.many
            have hsf := hS.few
            have hn8 := HL.out.1
            have hrm := HRM.out
            have hkl := HKL.out
            simp only [List.length_append, List.length_singleton, List.length_map] at hfew hmany hsf
            refine ⟨va', (R ++ R').length, vc', hv', ?_, ?_, ?_, ?_, R ++ R', K ++ [tl], _, hv' ▸ hR5, ?_, htw, ?_, hB⟩
            · rw [List.length_append]; omega
            · rw [List.length_append]; omega
            · omega
            · rw [List.length_append]; omega
            · simpa using hO5
            · simp; omega
          have src : Hid (∀ w3 w4 v R', (wr.alloc (.cells #[.slice ba nb bc, .slice aa na ac, .slice ta q tc] 46)).grownBy w3 (some w2.heap.size) → Races w1 w3 w4 v R' → Sp (wl g) tl (2 + K.length) (wl g).length R' → Races w1 w1 w4 (.slice (some ⟨G, 0, none⟩) m vc) R ∧ (R.length + R'.length) * 72 ≤ 140737488355328) := by
            intro w3 w4 v R' hg3 hR4 hS
            refine ⟨(st.out w3 hg3).1.mono hR4.ext, ?_⟩
            have hsf := hS.few
            have hn8 := HL.out.1
            have hrm := HRM.out
            simp only [List.length_map] at hsf
            omega
          clear HR HO HT HRK HOK HSD
          go_upto_region 15 with (first | (go_at_call 24; refine hnum.mono ?_; rintro e w3 ⟨rfl, rfl⟩) | (at_lookup; refine wpList_lookup_own_ok_int _ rfl _ _ 44 rfl 3 3 .i64 law3 under44 Try.underlying3 (zero3 _) w2.heap.size K.length D rfl HOa.out _ _ rfl hkey ?_; intro cc hat hwc; clear hat hwc) | (at_mapUpdate; refine wpList_mapUpdate_own _ rfl _ _ _ 44 rfl 3 3 law3 under44 _ w2.heap.size K.length D rfl HOa.out hKm _ _ _ rfl rfl hkey _ [] (plainElem_int Try.underlying3 hwk) ?_; intro w3 hO3 hg3))
          have c0 : w3.cell? ⟨wr.heap.size, 0, none⟩ = some (.slice ba nb bc) := by rw [cell_of_row _ _ _ _ 46 (0, 0) (now.out w3 hg3)]; rfl
          have c1 : w3.cell? ⟨wr.heap.size, 1, none⟩ = some (.slice aa na ac) := by rw [cell_of_row _ _ _ _ 46 (0, 0) (now.out w3 hg3)]; rfl
          have c2 : w3.cell? ⟨wr.heap.size, 2, none⟩ = some (.slice ta q tc) := by rw [cell_of_row _ _ _ _ 46 (0, 0) (now.out w3 hg3)]; rfl
          have hcs := calls.out w3 hg3
          have HO3 : Hid (w3.ownsMap Try.prog 3 (plainElem Try.prog 3) w2.heap.size (K.length + 1) (D.put (.int .i64 (z : Int)) (.lit (.int .i64 (k : Int))))) := hO3
          have HG3 : Hid ((wr.alloc (.cells #[.slice ba nb bc, .slice aa na ac, .slice ta q tc] 46)).grownBy w3 (some w2.heap.size)) := hg3
          clear hO3 hg3 d0 d1 d2 hnum hkey hwk hKm HRa HOa
          go_wp2_with (first | (go_at_call 25; refine hcs.mono ?_; rintro e w4 ⟨v4, R', rfl, hR4, hS4⟩) | (at_builtin; refine wpList_appendRaces rfl _ _ rfl w1 w1 w4 _ (by rfl) R (src.out w3 w4 v4 R' HG3.out hR4 hS4).1 _ R' (by rfl) hR4.src hR4.ok (src.out w3 w4 v4 R' HG3.out hR4 hS4).2 ?_; intro v' w5 hR5 hg5; obtain ⟨va', m', vc', hv', y1, y2, y3, y4, hM⟩ := last.out w3 w4 v4 R' v' w5 HG3.out HO3.out hR4 hS4 hR5 hg5; have HMM : Hid (Mem g w1 w5 (.slice va' m' vc') w2.heap.size (k + 1) (kk + 1)) := hM; subst hv'; clear hM hR5 hg5 hR4 hS4))
          go_roundg (9 * (512 - (kk + 1)) + (m' - (k + 1)))
          case measure => omega
          case rel => exact ⟨k + 1, m', kk + 1, va', vc', by go_num, rfl, y1, y3, y2, Nat.le_refl _, HMM.out⟩
        · have KN : Hid (Mem g w1 (wr.alloc (.cells #[.slice ba nb bc, .slice aa na ac, .slice ta q tc] 46)) (.slice (some ⟨G, 0, none⟩) m vc) w2.heap.size (k + 1) kk) :=
            ⟨R, K, D, HRa.out, HOa.out, tw_known HT.out hkR (by rw [HHK.out]; exact hh), HKL.out, hB⟩
          go_wp2_with (first | (go_at_call 24; refine hnum.mono ?_; rintro e w3 ⟨rfl, rfl⟩) | (at_lookup; refine wpList_lookup_own_ok_int _ rfl _ _ 44 rfl 3 3 .i64 law3 under44 Try.underlying3 (zero3 _) w2.heap.size K.length D rfl HOa.out _ _ rfl hkey ?_; intro cc hat hwc; clear hat hwc))
          go_roundg (9 * (512 - kk) + (m - (k + 1)))
          case measure => omega
          case rel => exact ⟨k + 1, m, kk, _, vc, by go_num, rfl, by omega, by omega, by omega, by omega, KN.out⟩
    · have U : Hid (Ext w wr ∧ Uniq (wl g)) := by
        obtain ⟨R, K, D, hR, hO, hT, hKl, hB⟩ := A.out
        obtain ⟨_, _, e⟩ := hR.form
        injection e with _ e _
        exact ⟨E1.out.trans hR.ext, tw_end hT (by omega)⟩
      clear A
      go_wp2
      go_ret3
      exact ⟨U.out.1, ⟨none, 0, []⟩, ⟨none, 0, []⟩, ⟨by simp, by simp, by simp, 0, 0, by simp, by simp⟩, ⟨by simp, by simp, by simp, 0, 0, by simp, by simp⟩, Or.inl ⟨rfl, U.out.2, rfl, rfl⟩⟩

theorem twice_bad (a : Option Addr) (c : Nat) (g : List Wd) (w : World) (hg : Wds w a c g) (h0 : erl g = 1) :
    Calls Try.prog 11 #[.slice a g.length c] w fun e w' => e = .returned (.tuple #[.slice none 0 0, .slice none 0 0, .int .i64 1]) ∧ Ext w w' := by
  have hck := check_any a c g w hg
  rw [h0] at hck
  generalize g.length = n at *
  clear hg h0
  go_enter Try.func11, Try.ntmps11
  go_wp2_with (go_at_call 22; refine hck.mono ?_; rintro e w1 ⟨rfl, hb⟩)
  go_ret3
  exact ⟨rfl, hb⟩

end Go.Proofs.Ytlhkifbjbibfoaa
