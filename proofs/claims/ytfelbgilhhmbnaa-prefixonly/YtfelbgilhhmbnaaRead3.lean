/-
  What prefix.Read answers of a code that can be read, and bits.
-/
import Derived.Test.YtfelbgilhhmbnaaRead2
namespace Go.Proofs.Ytfelbgilhhmbnaa
open Go.RowKit

theorem firstOf_spec {α : Type} (p : α → Bool) (g : List α) (q : Nat) (hq : q < g.length) (h : firstOf p g = q) : p g[q] = true := by
  unfold firstOf at h
  split at h
  · rename_i i hi
    obtain ⟨h1, h2, _⟩ := List.findIdx?_eq_some_iff_getElem.1 hi
    have : i = q := by omega
    subst this
    exact h2
  · omega

set_option maxHeartbeats 1000000 in
theorem read_ok (a : Option Addr) (c : Nat) (g : List Wd) (y : Wd) (w : World) (hg : Wds w a c g) (hy : Bits w y) (hc : crd g = 0) (hb : bareB g = false) :
    Calls Try.prog 13 #[.slice a g.length c, y.v] w fun e w' => ((∃ x : Nm, rd g (y.l.length + 1) y.l [] = some x.z ∧ e = .returned (.tuple #[x.v, .int .i64 0]) ∧ Nums w' x) ∨
      (rd g (y.l.length + 1) y.l [] = none ∧ y.l.length ≠ 0 ∧ e = .returned (.tuple #[.slice none 0 0, .int .i64 5]))) ∧ Ext w w' := by
  have eg : ∀ args w, (callFunc 29 args).run Try.prog w = .ok (.enter 29 args) w := enters_of Try.func29 (by kernel_rfl) rfl
  have h28 := checkReadable_any a c g w hg
  rw [hc] at h28
  have HG : Hid (Wds w a c g) := hg
  have HY : Hid (Bits w y) := hy
  have HB : Hid (bareB g = false) := hb
  obtain ⟨h1, h2, _, b, o, h4, h5⟩ := hg
  have H5 : Hid (∀ i (h : i < g.length), w.cell? ⟨b, o + i, none⟩ = some (g[i].v)) := h5
  have y2 := hy.2.1
  have y1 := hy.1
  unfold maxLen at h2 y2
  clear h5 hy hc hb
  obtain ⟨n, hn⟩ : ∃ n, g.length = n := ⟨_, rfl⟩
  have HN : Hid (g.length = n) := hn
  rw [hn] at h1 h4 h28 ⊢
  clear hn
  obtain ⟨R, hR⟩ : ∃ R, rd g (y.l.length + 1) y.l [] = R := ⟨_, rfl⟩
  have HR : Hid (rd g (y.l.length + 1) y.l [] = R) := hR
  rw [hR]
  clear hR
  obtain ⟨i0, hi, hz0, hz1, hz2⟩ := info_parts info3
  simp only [Wd.v]
  go_enter Try.func13, Try.ntmps13
  go_wp2_with fail
  refine h28.mono ?_
  rintro e w1 ⟨rfl, hb1⟩
  clear h28
  go_wp2
  have st : RdM w1.heap.size (w1.alloc (.cells #[.slice y.a y.l.length y.c] 29)) (w1.alloc (.cells #[.slice y.a y.l.length y.c] 29)) (.slice none 0 0) y [] :=
    ⟨Below.refl _ _, by simp, by simp, by simp, World.ownsRow_nil _ _ _ _⟩
  have ST : Hid (RdM w1.heap.size (w1.alloc (.cells #[.slice y.a y.l.length y.c] 29)) (w1.alloc (.cells #[.slice y.a y.l.length y.c] 29)) (.slice none 0 0) y []) := st
  clear st
  have low : Hid (∀ W, Below w1.heap.size (w1.alloc (.cells #[.slice y.a y.l.length y.c] 29)) W → Ext w W) := fun W h => hb1.trans (Below.trans ((Ext.refl w1).alloc _) h)
  generalize w1.alloc (.cells #[.slice y.a y.l.length y.c] 29) = W0 at *
  generalize w1.heap.size = M at *
  clear hb1 w1
  go_loopg [7, 10] (y.l.length) (fun gg v _ wr => ∃ (r : Wd) (z : List Int) (va : Option Addr) (vc : Nat), v = .slice va z.length vc ∧ r.l.length ≤ gg ∧ z.length ≤ 64 ∧
    Aside (RdM M W0 wr (.slice va z.length vc) r z ∧ Bits w r ∧ (∃ f, r.l.length < f ∧ rd g f r.l z = R) ∧ (r.l.length ≠ 0 → y.l.length ≠ 0)))
  case atStart => exact ⟨y, [], none, 0, rfl, Nat.le_refl _, by simp, ST.out, HY.out, ⟨_, Nat.lt_succ_self _, HR.out⟩, fun h => h⟩
  case round =>
    obtain ⟨r, z, va, vc, rfl, hgg, hz64, A⟩ := hrel
    obtain ⟨am, ab, ⟨f, af1, af2⟩, ay⟩ := A.out
    have hbox := am.box
    have hfr := am.fr
    have EW : Hid (Ext w wr) := low.out wr am.low
    have hrb := ab.1
    have hrm := ab.2.1
    unfold maxLen at hrm
    by_cases hr0 : r.l.length = 0
    · have hR0 : Hid (R = some z) := by
        obtain ⟨f', rfl⟩ : ∃ f', f = f' + 1 := ⟨f - 1, by omega⟩
        show R = some z
        rw [← af2]
        exact rd_end g f' r.l z hr0
      obtain ⟨x, hx1, hx2, hx3⟩ := am.nums
      have HX : Hid (x.z = z ∧ Nums wr x) := ⟨hx2, hx3⟩
      have hxv : Hid (Value.slice va z.length vc = x.v) := hx1
      have hlen : (r.l.length : Int) ≤ 0 := by omega
      clear A am ab af1 af2 ay hr0 hx1 hx2 hx3 ST low HR HB
      simp only [Wd.v] at hbox
      generalize r.l.length = k at *
      go_wp2
      go_ret2
      refine ⟨Or.inl ⟨x, by rw [hR0.out, HX.out.1], ?_, HX.out.2⟩, EW.out⟩
      exact congrArg (fun v => Ending.returned (.tuple #[v, .int .i64 0])) hxv.out
    · have hlen : (0 : Int) < (r.l.length : Int) := by omega
      have hidx := index_any a c g 29 #[.pointer (some ⟨M, 0, none⟩)] (pre r.l) wr eg (HG.out.ext EW.out)
        (fun W x hx e => starts_any M x r W ((HG.out.2.2.1 x hx).ext (EW.out.trans e)) (ab.ext (EW.out.trans e)) (e.cell hbox))
      rw [HN.out] at hidx
      have hfo := firstOf_range (pre r.l) g
      have AY : Hid (y.l.length ≠ 0) := ay hr0
      by_cases hneg : firstOf (pre r.l) g < 0
      · have hR0 : Hid (R = none) := by
          obtain ⟨f', rfl⟩ : ∃ f', f = f' + 1 := ⟨f - 1, by omega⟩
          show R = none
          rw [← af2]
          exact rd_none g f' r.l z hr0 (Or.inl hneg)
        clear A am ab af1 af2 ay hr0 ST low HR HB hfo
        generalize firstOf (pre r.l) g = t at *
        simp only [Wd.v] at hbox
        generalize r.l.length = k at *
        go_wp2_with (go_at_call 30; refine hidx.mono ?_; rintro e w2 ⟨rfl, hb2⟩)
        go_ret2
        exact ⟨Or.inr ⟨hR0.out, AY.out, rfl⟩, EW.out.trans hb2⟩
      · obtain ⟨q, hq⟩ := Int.eq_ofNat_of_zero_le (by omega : 0 ≤ firstOf (pre r.l) g)
        have hqg : q < g.length := by omega
        have hqn : q < n := by have := HN.out; omega
        have hqz : (q : Int) < (n : Int) := by omega
        rw [hq] at hidx
        by_cases h64 : z.length = 64
        · have hR0 : Hid (R = none) := by
            obtain ⟨f', rfl⟩ : ∃ f', f = f' + 1 := ⟨f - 1, by omega⟩
            show R = none
            rw [← af2]
            exact rd_none g f' r.l z hr0 (Or.inr h64)
          have h64' : ((z.length : Int) == 64) = true := by simp; omega
          clear A am ab af1 af2 ay hr0 ST low HR HB hfo hneg hq h64
          simp only [Wd.v] at hbox
          generalize r.l.length = k at *
          generalize z.length = zl at *
          go_wp2_with (go_at_call 30; refine hidx.mono ?_; rintro e w2 ⟨rfl, hb2⟩)
          go_ret2
          exact ⟨Or.inr ⟨hR0.out, AY.out, rfl⟩, EW.out.trans hb2⟩
        · have h64' : ((z.length : Int) == 64) = false := by simp; omega
          obtain rfl := h4 (by omega)
          have e2 := EW.out.cell (H5.out q hqg)
          have hpre := firstOf_spec (pre r.l) g q hqg hq
          have htl : g[q].l.length ≤ r.l.length := (List.isPrefixOf_iff_prefix.1 hpre).length_le
          have ht0 : 0 < g[q].l.length := by
            have := List.any_eq_false.1 HB.out g[q] (List.getElem_mem hqg)
            simp at this
            exact List.length_pos_iff.2 this
          have NX : Hid (∃ f', (restOf r g[q].l.length).l.length < f' ∧ rd g f' (restOf r g[q].l.length).l (z ++ [(q : Int)]) = R) := by
            obtain ⟨f', rfl⟩ : ∃ f', f = f' + 1 := ⟨f - 1, by omega⟩
            refine ⟨f', ?_, ?_⟩
            · simp only [restOf, List.length_drop]; omega
            · rw [← af2, rd_step g f' q r.l z hr0 hq hqg h64]
              rfl
          have NB : Hid (Bits w (restOf r g[q].l.length)) := ab.drop _ htl
          have AM : Hid (RdM M W0 wr (.slice va z.length vc) r z) := am
          have e3 : Hid (w.cell? ⟨b, o + q, none⟩ = some g[q].v) := H5.out q hqg
          obtain ⟨rb, ro, hra⟩ : ∃ rb ro, r.a = some ⟨rb, ro, none⟩ := by
            obtain ⟨_, _, _, rb, ro, hra, _⟩ := ab
            exact ⟨rb, ro, hra (by omega)⟩
          clear A am ab af1 af2 ay hr0 ST HR HB hfo hneg hq h64 hpre e2 h4
          generalize g[q] = t at *
          obtain ⟨ra, rc, rl⟩ := r
          simp only at hra hrb hrm hlen htl hgg
          subst hra
          simp only [Wd.v] at hbox
          go_wp2_with fail
          refine hidx.mono ?_
          rintro e w2 ⟨rfl, hb2⟩
          have AM2 : Hid (RdM M W0 w2 (.slice va z.length vc) ⟨some ⟨rb, ro, none⟩, rc, rl⟩ z) := AM.out.ext hb2
          clear hidx hbox hfr AM hb2
          go_wp2_with (at_builtin; refine wpList_append_own _ rfl _ _ 28 rfl (M + 1) 3 i0 (.int .i64 0) 1 8 Try.underlying28 hi hz0 hz1 hz2 rfl (by decide) (.slice va z.length vc) z.length (z.map (Value.int .i64)) (by rfl) (AM2.out.own.alloc _) ⟨w2.heap.size, 0, none⟩ 1 1 [.int .i64 q] (by rfl) rfl ?c1 ?c2 ?c3 ?c4 ?c5 ?_)
          case c1 => exact cell_one_new _ _ _
          case c2 => intro u hu; simp at hu; subst hu; rfl
          case c3 => unfold maxLen; omega
          case c4 => omega
          case c5 => have := AM2.out.sz; simp; omega
          intro v' w3 hown' hgrow _
          have am3 := AM2.out.app hown' hgrow
          clear hown' hgrow AM2
          obtain ⟨va3, vc3, hv3⟩ := am3.form
          rw [hv3] at am3 ⊢
          clear hv3
          have hbox3 := am3.box
          have hfr3 := am3.fr
          have E3 : Hid (Ext w w3) := low.out w3 am3.low
          have e4 := E3.out.cell e3.out
          have AM3 : Hid (RdM M W0 w3 (.slice va3 (z ++ [(q : Int)]).length vc3) ⟨some ⟨rb, ro, none⟩, rc, rl⟩ (z ++ [(q : Int)])) := am3
          clear am3
          simp only [Wd.v] at hbox3 e4
          have hz65 : Hid ((z ++ [(q : Int)]).length ≤ 64) := by
            have : z.length ≠ 64 := fun h => by rw [h] at h64'; simp at h64'
            show (z ++ [(q : Int)]).length ≤ 64
            rw [List.length_append, List.length_singleton]
            omega
          have hlq : (restOf ⟨some ⟨rb, ro, none⟩, rc, rl⟩ t.l.length).l.length = rl.length - t.l.length := by simp [restOf]
          by_cases hrc : rc = t.l.length
          · have hv : (restOf ⟨some ⟨rb, ro, none⟩, rc, rl⟩ t.l.length).v = .slice (some ⟨rb, ro, none⟩) 0 0 := by
              simp only [Wd.v, hlq]
              simp [restOf, hrc]
              omega
            have AM4 := (AM3.out.store (restOf ⟨some ⟨rb, ro, none⟩, rc, rl⟩ t.l.length)).drew
            rw [hv] at AM4
            have AM5 : Hid (RdM M W0 ((w3.setCell ⟨M, 0, none⟩ (.slice (some ⟨rb, ro, none⟩) 0 0)).drew) (.slice va3 (z ++ [(q : Int)]).length vc3) (restOf ⟨some ⟨rb, ro, none⟩, rc, rl⟩ t.l.length) (z ++ [(q : Int)])) := AM4
            have HLQ : Hid ((restOf ⟨some ⟨rb, ro, none⟩, rc, rl⟩ t.l.length).l.length ≤ rl.length - t.l.length) := Nat.le_of_eq hlq
            clear AM4 hv hlq
            subst hrc
            go_wp2
            go_region
            go_wp2
            go_roundg (rl.length - t.l.length)
            case measure => omega
            case rel => exact ⟨_, _, va3, vc3, rfl, HLQ.out, hz65.out, AM5.out, NB.out, NX.out, fun _ => AY.out⟩
          · have hv : (restOf ⟨some ⟨rb, ro, none⟩, rc, rl⟩ t.l.length).v = .slice (some ⟨rb, ro + t.l.length, none⟩) (rl.length - t.l.length) (rc - t.l.length) := by
              simp only [Wd.v, hlq]
              simp [restOf, hrc]
            have AM4 := (AM3.out.store (restOf ⟨some ⟨rb, ro, none⟩, rc, rl⟩ t.l.length)).drew
            rw [hv] at AM4
            have AM5 : Hid (RdM M W0 ((w3.setCell ⟨M, 0, none⟩ (.slice (some ⟨rb, ro + t.l.length, none⟩) (rl.length - t.l.length) (rc - t.l.length))).drew) (.slice va3 (z ++ [(q : Int)]).length vc3) (restOf ⟨some ⟨rb, ro, none⟩, rc, rl⟩ t.l.length) (z ++ [(q : Int)])) := AM4
            have HLQ : Hid ((restOf ⟨some ⟨rb, ro, none⟩, rc, rl⟩ t.l.length).l.length ≤ rl.length - t.l.length) := Nat.le_of_eq hlq
            clear AM4 hv hlq
            go_wp2
            go_region
            go_wp2
            go_roundg (rl.length - t.l.length)
            case measure => omega
            case rel => exact ⟨_, _, va3, vc3, rfl, HLQ.out, hz65.out, AM5.out, NB.out, NX.out, fun _ => AY.out⟩

end Go.Proofs.Ytfelbgilhhmbnaa
