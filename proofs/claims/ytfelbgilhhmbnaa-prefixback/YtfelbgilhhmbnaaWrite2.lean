/-
  What prefix.Write answers of a code and symbols: their words, one behind the other, or what is wrong.
-/
import Derived.Test.YtfelbgilhhmbnaaWrite
namespace Go.Proofs.Ytfelbgilhhmbnaa
open Go.RowKit

/-- What is wrong with what is to be written. -/
def wer (g : List Wd) (z : List Int) : Int := if erl g = 0 then (if 64 < z.length then 1 else if z.any (wordless g.length) then 2 else 0) else erl g
/-- What is written. -/
def wout (g : List Wd) (z : List Int) : List Bool := if wer g z = 0 then written g z else []

theorem erl_cases (g : List Wd) : erl g = 1 ∨ erl g = 0 := by unfold erl; split <;> simp
theorem wer_large {g : List Wd} {z : List Int} (h : erl g = 1) : wer g z = 1 := by simp [wer, h]
theorem wer_long {g : List Wd} {z : List Int} (h : erl g = 0) (h' : 64 < z.length) : wer g z = 1 := by simp [wer, h, h']
theorem wer_arg {g : List Wd} {z : List Int} (h : erl g = 0) (h' : z.length ≤ 64) (ha : z.any (wordless g.length) = true) : wer g z = 2 := by
  simp [wer, h, ha, Nat.not_lt.2 h']
theorem wer_ok {g : List Wd} {z : List Int} (h : erl g = 0) (h' : z.length ≤ 64) (ha : z.any (wordless g.length) = false) : wer g z = 0 := by
  simp [wer, h, ha, Nat.not_lt.2 h']
theorem wout_bad {g : List Wd} {z : List Int} (h : wer g z ≠ 0) : wout g z = [] := by simp [wout, h]
theorem wout_ok {g : List Wd} {z : List Int} (h : wer g z = 0) : wout g z = written g z := by simp [wout, h]

theorem large_false {g : List Wd} (h : erl g = 0) : g.length ≤ 8 ∧ ∀ x ∈ g, x.l.length ≤ 8 := by
  unfold erl large at h
  split at h
  · cases h
  · rename_i h'
    rw [Bool.or_eq_true, not_or] at h'
    refine ⟨by have := h'.1; simp at this; omega, fun x hx => ?_⟩
    have h2 := List.any_eq_false.1 (Bool.eq_false_iff.2 h'.2) x hx
    simp at h2
    omega

theorem fits_of {g : List Wd} {z : List Int} (h : erl g = 0) (h' : z.length ≤ 64) (ha : z.any (wordless g.length) = false) : Fits g z := by
  refine ⟨(large_false h).2, h', fun s hs => ?_⟩
  have := List.any_eq_false.1 ha s hs
  simp [wordless] at this
  omega

theorem bits_nil (w : World) : Bits w ⟨none, 0, []⟩ := ⟨by simp, by simp, by simp, 0, 0, by simp, by simp⟩

set_option maxHeartbeats 1000000 in
theorem write_any (a : Option Addr) (c : Nat) (g : List Wd) (z : Nm) (w : World) (hg : Wds w a c g) (hz : Nums w z) :
    Calls Try.prog 11 #[.slice a g.length c, z.v] w fun e w' => (∃ x : Wd, e = .returned (.tuple #[x.v, .int .i64 (wer g z.z)]) ∧ x.l = wout g z.z ∧ Bits w' x) ∧ Ext w w' := by
  have eg : ∀ args w, (callFunc 26 args).run Try.prog w = .ok (.enter 26 args) w := enters_of Try.func26 (by kernel_rfl) rfl
  have HG : Hid (Wds w a c g) := hg
  have H9 : Hid (∀ W, Ext w W → Calls Try.prog 21 #[.slice a g.length c] W fun e w' => e = .returned (.int .i64 (erl g)) ∧ Ext W w') := fun W e => check_any a c g W (hg.ext e)
  have HC : Hid (∀ W, Ext w W → W.cell? ⟨w.heap.size, 0, none⟩ = some (.slice a g.length c) →
      Calls Try.prog 27 #[z.v, .func (.func 26) #[] #[.pointer (some ⟨w.heap.size, 0, none⟩)]] W fun e w' => e = .returned (.bool (z.z.any (wordless g.length))) ∧ Ext W w') := fun W e hc =>
    containsN_any z.a z.c z.z 26 #[.pointer (some ⟨w.heap.size, 0, none⟩)] (wordless g.length) W eg (hz.ext e) (fun W' x _ e' => wordless_any w.heap.size g.length c a x W' (e'.cell hc))
  have NIL : Hid (∀ W, Bits W ⟨none, 0, []⟩) := bits_nil
  obtain ⟨h1, h2, _, b, o, h4, h5⟩ := hg
  obtain ⟨k1, k2, _, zb, zo, k4, k5⟩ := hz
  obtain ⟨za, zc, zz⟩ := z
  simp only [Nm.v] at *
  have H5 : Hid (∀ i (h : i < g.length), w.cell? ⟨b, o + i, none⟩ = some (g[i].v)) := h5
  have K5 : Hid (∀ i (h : i < zz.length), w.cell? ⟨zb, zo + i, none⟩ = some (.int .i64 zz[i])) := fun i h => by
    have := k5 i h
    rwa [List.getD_eq_getElem?_getD, List.getElem?_eq_getElem h] at this
  unfold maxLen at h2 k2
  clear h5 k5
  rcases erl_cases g with he | he
  · rw [wer_large he, wout_bad (by rw [wer_large he]; decide)]
    rw [he] at H9
    clear he HC H5 K5
    generalize g.length = n at *
    generalize zz.length = m at *
    go_enter Try.func11, Try.ntmps11
    go_wp2_with fail
    refine (H9.out _ ((Ext.refl w).alloc _)).mono ?_
    rintro e w1 ⟨rfl, hb⟩
    go_wp2
    go_ret2
    exact ⟨⟨⟨none, 0, []⟩, rfl, rfl, NIL.out _⟩, ((Ext.refl w).alloc _).trans hb⟩
  by_cases h64 : 64 < zz.length
  · rw [wer_long he h64, wout_bad (by rw [wer_long he h64]; decide)]
    rw [he] at H9
    clear he HC H5 K5
    generalize g.length = n at *
    generalize zz.length = m at *
    have h64' : (64 : Int) < (m : Int) := by omega
    go_enter Try.func11, Try.ntmps11
    go_wp2_with fail
    refine (H9.out _ ((Ext.refl w).alloc _)).mono ?_
    rintro e w1 ⟨rfl, hb⟩
    go_wp2
    go_ret2
    exact ⟨⟨⟨none, 0, []⟩, rfl, rfl, NIL.out _⟩, ((Ext.refl w).alloc _).trans hb⟩
  cases ha : zz.any (wordless g.length) with
  | true =>
    rw [wer_arg he (by omega) ha, wout_bad (by rw [wer_arg he (by omega) ha]; decide)]
    rw [he] at H9
    rw [ha] at HC
    clear he ha H5 K5
    generalize g.length = n at *
    generalize zz.length = m at *
    have h64' : ¬ (64 : Int) < (m : Int) := by omega
    go_enter Try.func11, Try.ntmps11
    go_wp2_with fail
    refine (H9.out _ ((Ext.refl w).alloc _)).mono ?_
    rintro e w1 ⟨rfl, hb⟩
    have hbox : w1.cell? ⟨w.heap.size, 0, none⟩ = some (.slice a n c) := hb.cell (by simp)
    go_wp2_with fail
    refine (HC.out _ (((Ext.refl w).alloc _).trans hb) hbox).mono ?_
    rintro e w2 ⟨rfl, hb2⟩
    go_wp2
    go_ret2
    exact ⟨⟨⟨none, 0, []⟩, rfl, rfl, NIL.out _⟩, (((Ext.refl w).alloc _).trans hb).trans hb2⟩
  | false =>
    have hw0 := wer_ok he (by omega) ha
    rw [hw0, wout_ok hw0]
    clear hw0
    have HF : Hid (Fits g zz) := fits_of he (by omega) ha
    rw [he] at H9
    rw [ha] at HC
    clear he ha
    obtain ⟨n, hn⟩ : ∃ n, g.length = n := ⟨_, rfl⟩
    obtain ⟨m, hm⟩ : ∃ m, zz.length = m := ⟨_, rfl⟩
    have HN : Hid (g.length = n) := hn
    have HM : Hid (zz.length = m) := hm
    rw [hn] at h1 h4 H9 HC ⊢
    rw [hm] at k1 k4 HC h64 ⊢
    clear hn hm
    have h64' : ¬ (64 : Int) < (m : Int) := by omega
    go_enter Try.func11, Try.ntmps11
    go_wp2_with fail
    refine (H9.out _ ((Ext.refl w).alloc _)).mono ?_
    rintro e w1 ⟨rfl, hb⟩
    have hbox : w1.cell? ⟨w.heap.size, 0, none⟩ = some (.slice a n c) := hb.cell (by simp)
    go_wp2_with fail
    refine (HC.out _ (((Ext.refl w).alloc _).trans hb) hbox).mono ?_
    rintro e w2 ⟨rfl, hb2⟩
    have hbox2 := hb2.cell hbox
    have E2 : Hid (Ext w w2) := (((Ext.refl w).alloc _).trans hb).trans hb2
    clear hb hb2 hbox H9 HC
    go_wp2
    go_loopg [8, 10, 25] m (fun gg v _ s wr => ∃ k : Nat, k ≤ m ∧ m - k ≤ gg ∧ s = .int .i64 k ∧ Aside (OwnB w2 wr v (written g (zz.take k))))
    case atStart => exact ⟨0, Nat.zero_le _, by omega, rfl, OwnB.nil (Ext.refl w2)⟩
    case round =>
      obtain ⟨k, hk, hgg, rfl, A⟩ := hrel
      have EW : Hid (Ext w wr) := E2.out.trans A.out.1
      have hbr := A.out.1.cell hbox2
      by_cases hlt : k < m
      · have hltz : (k : Int) < (m : Int) := by omega
        obtain rfl := k4 (by omega)
        have hkl : k < zz.length := by rw [HM.out]; exact hlt
        have hs := HF.out.all zz[k] (List.getElem_mem hkl)
        obtain ⟨q, hq⟩ := Int.eq_ofNat_of_zero_le hs.1
        have hqn : q < n := by have := HN.out; omega
        have hqz : (q : Int) < (n : Int) := by omega
        have hql : q < g.length := by rw [HN.out]; exact hqn
        obtain rfl := h4 (by omega)
        have e1 := EW.out.cell (K5.out k hkl)
        rw [hq] at e1
        have e2 := EW.out.cell (H5.out q hql)
        have hy : Hid (Bits wr g[q]) := (HG.out.sub q hql).ext EW.out
        have nx : Hid (written g (zz.take (k + 1)) = written g (zz.take k) ++ g[q].l) := written_take g zz k q hkl hq hql
        have le : Hid ((written g (zz.take k)).length + g[q].l.length ≤ 140737488355328) := by
          have t1 := written_le g HF.out.bits (zz.take k)
          have t2 := HF.out.bits g[q] (List.getElem_mem hql)
          have t3 := HF.out.many
          have t4 : (zz.take k).length ≤ zz.length := by simp; omega
          show (written g (zz.take k)).length + g[q].l.length ≤ 140737488355328
          omega
        clear hs hq h4 k4
        generalize g[q] = y at e2 hy nx le
        simp only [Wd.v] at e2
        go_wp2_with (at_builtin; refine wpList_appendBits rfl _ _ rfl w2 _ u8 (by rfl) _ A.out y (by rfl) hy.out le.out ?_; intro v' w3 B)
        have B' : Hid (OwnB w2 w3 v' (written g (zz.take (k + 1)))) := by show OwnB w2 w3 v' _; rw [nx.out]; exact B
        clear B
        go_wp2
        go_roundg (m - (k + 1))
        case measure => omega
        case rel => exact ⟨k + 1, by omega, by omega, by go_num, B'.out⟩
      · obtain ⟨x, hx, hl, hb⟩ := A.out.bits
        have HL : Hid (x.l = written g zz) := by
          have := HM.out
          rw [List.take_of_length_le (by omega)] at hl
          exact hl
        have HB : Hid (Bits wr x) := hb
        subst hx
        clear A hl hb
        go_wp2
        go_ret2
        exact ⟨⟨x, rfl, HL.out, HB.out⟩, EW.out⟩

end Go.Proofs.Ytfelbgilhhmbnaa
