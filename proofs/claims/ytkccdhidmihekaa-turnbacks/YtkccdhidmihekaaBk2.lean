/-
  turn.Back: the text whose Turn these are, or that there is none.
-/
import Derived.Test.YtkccdhidmihekaaBk1
namespace Go.Proofs.Ytkccdhidmihekaa
open Go.RowKit

theorem back_large (x : Wd) (q : Int) (w : World) (hx : Bits w x) (h : 64 < x.l.length) :
    Calls Try.prog 12 #[x.v, .int .i64 q] w fun e w' => e = .returned (.tuple #[.slice none 0 0, .int .i64 1]) ∧ w' = w := by
  obtain ⟨a, c, l⟩ := x
  have h1 := hx.1
  have h2 := hx.2.1
  simp only [Wd.v] at *
  unfold maxLen at h2
  clear hx
  generalize l.length = n at *
  have hn : (n : Int) > 64 := by omega
  go_enter Try.func12, Try.ntmps12
  go_wp2
  go_ret2
  exact ⟨rfl, rfl⟩

set_option maxHeartbeats 1000000 in
theorem back_range (x : Wd) (q : Int) (w : World) (h : x.l.length ≤ 64) (hq : q < 0 ∨ (q > 0 ∧ q ≥ x.l.length)) :
    Calls Try.prog 12 #[x.v, .int .i64 q] w fun e w' => e = .returned (.tuple #[.slice none 0 0, .int .i64 5]) ∧ w' = w := by
  obtain ⟨a, c, l⟩ := x
  simp only [Wd.v] at *
  generalize l.length = n at *
  have hn : ¬ (n : Int) > 64 := by omega
  by_cases h1 : q < 0
  · go_enter Try.func12, Try.ntmps12
    go_wp2
    go_ret2
    exact ⟨rfl, rfl⟩
  · have h2 : q > 0 := by omega
    have h3 : q ≥ (n : Int) := by omega
    clear hq
    go_enter Try.func12, Try.ntmps12
    go_wp2
    go_ret2
    exact ⟨rfl, rfl⟩

theorem fol_inB {L Nn : List Int} {a : Nat} (hL : InB L) (hN : Nx L Nn) (ha : a < L.length ∨ L.length = 0) : InB (fol L Nn a) := by
  intro y hy
  unfold fol at hy
  obtain ⟨i, hi, rfl⟩ := List.mem_map.1 hy
  rw [List.mem_range] at hi
  exact inB_at hL (pl_lt hN (by omega) (i + 1))

/-- Is this the text? -/
def Fits (l f : List Int) (a : Nat) : Prop := tl f = l ∧ rk f 0 = a

set_option maxHeartbeats 2000000 in
theorem back_in (x : Wd) (at_ : Nat) (w : World) (hx : Bits w x) (hin : InB x.l) (h : x.l.length ≤ 64) (hat : at_ < x.l.length ∨ (x.l.length = 0 ∧ at_ = 0)) :
    Calls Try.prog 12 #[x.v, .int .i64 at_] w fun e w' => Ext w w' ∧ ∃ Nn, Nx x.l Nn ∧
      ((Fits x.l (fol x.l Nn at_) at_ ∧ ∃ y : Wd, Bits w' y ∧ y.l = fol x.l Nn at_ ∧ e = .returned (.tuple #[y.v, .int .i64 0])) ∨ (¬ Fits x.l (fol x.l Nn at_) at_ ∧ e = .returned (.tuple #[.slice none 0 0, .int .i64 5]))) := by
  have hf := follow_any x at_ w hx h (by omega)
  have HTU : Hid (∀ (y : Wd) (W : World) (Nn : List Int), Bits W y → Nx x.l Nn → y.l = fol x.l Nn at_ → Calls Try.prog 9 #[y.v] W fun e w' => ∃ z : Wd, e = .returned (.tuple #[z.v, .int .i64 (rk (fol x.l Nn at_) 0 : Int), .int .i64 0]) ∧ z.l = tl (fol x.l Nn at_) ∧ Bits w' z ∧ Ext W w') := by
    intro y W Nn hy hN hyl
    have := turn_good y W hy (by rw [hyl]; exact fol_inB hin hN (by omega)) (by rw [hyl, fol_length]; exact h)
    rw [hyl] at this
    exact this
  have HEQ : Hid (∀ (z : Wd) (W : World) (Nn : List Int), Bits W z → Ext w W → Nx x.l Nn → z.l = tl (fol x.l Nn at_) → Calls Try.prog 23 #[z.v, x.v] W fun e w' => e = .returned (.bool (tl (fol x.l Nn at_) == x.l)) ∧ w' = W) := by
    intro z W Nn hz hW hN hzl
    have := bytesEqual_any z x W hz (hx.ext hW) (by
      rw [hzl]
      intro q hq
      exact fol_inB hin hN (by omega) q ((tl_perm _).subset hq)) hin
    rw [hzl] at this
    exact this
  obtain ⟨a, c, l⟩ := x
  simp only [Wd.v] at *
  obtain ⟨n, hn⟩ : ∃ n, l.length = n := ⟨_, rfl⟩
  rw [hn] at h hat hf HEQ ⊢
  have hn64 : ¬ (n : Int) > 64 := by omega
  have h1 : ¬ (at_ : Int) < 0 := by omega
  have hcond : Hid (¬ ((at_ : Int) > 0 ∧ (at_ : Int) ≥ (n : Int))) := by show ¬ _; omega
  clear hx hin hn
  have WALK : Calls Try.prog 12 #[.slice a n c, .int .i64 at_] w fun e w' => Ext w w' ∧ ∃ Nn, Nx l Nn ∧
      ((Fits l (fol l Nn at_) at_ ∧ ∃ y : Wd, Bits w' y ∧ y.l = fol l Nn at_ ∧ e = .returned (.tuple #[y.v, .int .i64 0])) ∨ (¬ Fits l (fol l Nn at_) at_ ∧ e = .returned (.tuple #[.slice none 0 0, .int .i64 5]))) := by
    by_cases h0 : (at_ : Int) > 0
    · have h2 : ¬ (at_ : Int) ≥ (n : Int) := by omega
      go_enter Try.func12, Try.ntmps12
      go_wp2_with fail
      refine hf.mono ?_
      rintro e w1 ⟨y, Nn, rfl, hN, hyl, hy, E1⟩
      have hct := HTU.out y w1 Nn hy hN hyl
      have HY : Hid (Bits w1 y ∧ y.l = fol l Nn at_ ∧ Ext w w1 ∧ Nx l Nn) := ⟨hy, hyl, E1, hN⟩
      clear hf HTU hy hyl E1 hN
      go_wp2_with fail
      refine hct.mono ?_
      rintro e w2 ⟨z, rfl, hzl, hz, E2⟩
      have hce := HEQ.out z w2 Nn hz (HY.out.2.2.1.trans E2) HY.out.2.2.2 hzl
      have HE2 : Hid (Ext w w2 ∧ Bits w2 y) := ⟨HY.out.2.2.1.trans E2, HY.out.1.ext E2⟩
      have HFi : Hid (Fits l (fol l Nn at_) at_ ↔ ((tl (fol l Nn at_) == l) = true ∧ rk (fol l Nn at_) 0 = at_)) := by
        show _ ↔ _
        rw [beq_iff_eq]
        exact Iff.rfl
      have HF2 : Hid (Nx l Nn ∧ y.l = fol l Nn at_) := ⟨HY.out.2.2.2, HY.out.2.1⟩
      clear hct HEQ hz hzl E2 HY
      generalize (tl (fol l Nn at_) == l) = eb at *
      by_cases hr : rk (fol l Nn at_) 0 = at_
      · have hne : ((rk (fol l Nn at_) 0 : Int) != (at_ : Int)) = false := by simp [hr]
        cases eb with
        | true =>
          have F : Hid (Fits l (fol l Nn at_) at_) := HFi.out.2 ⟨rfl, hr⟩
          clear HFi hr
          generalize (rk (fol l Nn at_) 0 : Int) = rr0 at *
          go_wp2_with (go_at_call 23; refine hce.mono ?_; rintro e w3 ⟨rfl, rfl⟩)
          go_ret2
          exact ⟨HE2.out.1, Nn, HF2.out.1, .inl ⟨F.out, y, HE2.out.2, HF2.out.2, rfl⟩⟩
        | false =>
          have F : Hid (¬ Fits l (fol l Nn at_) at_) := fun hh => absurd (HFi.out.1 hh).1 Bool.false_ne_true
          clear HFi hr
          generalize (rk (fol l Nn at_) 0 : Int) = rr0 at *
          go_wp2_with (go_at_call 23; refine hce.mono ?_; rintro e w3 ⟨rfl, rfl⟩)
          go_ret2
          exact ⟨HE2.out.1, Nn, HF2.out.1, .inr ⟨F.out, rfl⟩⟩
      · have hne : ((rk (fol l Nn at_) 0 : Int) != (at_ : Int)) = true := by simp; omega
        have F : Hid (¬ Fits l (fol l Nn at_) at_) := fun hh => hr (HFi.out.1 hh).2
        clear HFi hr hce
        generalize (rk (fol l Nn at_) 0 : Int) = rr0 at *
        go_wp2
        go_ret2
        exact ⟨HE2.out.1, Nn, HF2.out.1, .inr ⟨F.out, rfl⟩⟩
    · go_enter Try.func12, Try.ntmps12
      go_wp2_with fail
      refine hf.mono ?_
      rintro e w1 ⟨y, Nn, rfl, hN, hyl, hy, E1⟩
      have hct := HTU.out y w1 Nn hy hN hyl
      have HY : Hid (Bits w1 y ∧ y.l = fol l Nn at_ ∧ Ext w w1 ∧ Nx l Nn) := ⟨hy, hyl, E1, hN⟩
      clear hf HTU hy hyl E1 hN
      go_wp2_with fail
      refine hct.mono ?_
      rintro e w2 ⟨z, rfl, hzl, hz, E2⟩
      have hce := HEQ.out z w2 Nn hz (HY.out.2.2.1.trans E2) HY.out.2.2.2 hzl
      have HE2 : Hid (Ext w w2 ∧ Bits w2 y) := ⟨HY.out.2.2.1.trans E2, HY.out.1.ext E2⟩
      have HFi : Hid (Fits l (fol l Nn at_) at_ ↔ ((tl (fol l Nn at_) == l) = true ∧ rk (fol l Nn at_) 0 = at_)) := by
        show _ ↔ _
        rw [beq_iff_eq]
        exact Iff.rfl
      have HF2 : Hid (Nx l Nn ∧ y.l = fol l Nn at_) := ⟨HY.out.2.2.2, HY.out.2.1⟩
      clear hct HEQ hz hzl E2 HY
      generalize (tl (fol l Nn at_) == l) = eb at *
      by_cases hr : rk (fol l Nn at_) 0 = at_
      · have hne : ((rk (fol l Nn at_) 0 : Int) != (at_ : Int)) = false := by simp [hr]
        cases eb with
        | true =>
          have F : Hid (Fits l (fol l Nn at_) at_) := HFi.out.2 ⟨rfl, hr⟩
          clear HFi hr
          generalize (rk (fol l Nn at_) 0 : Int) = rr0 at *
          go_wp2_with (go_at_call 23; refine hce.mono ?_; rintro e w3 ⟨rfl, rfl⟩)
          go_ret2
          exact ⟨HE2.out.1, Nn, HF2.out.1, .inl ⟨F.out, y, HE2.out.2, HF2.out.2, rfl⟩⟩
        | false =>
          have F : Hid (¬ Fits l (fol l Nn at_) at_) := fun hh => absurd (HFi.out.1 hh).1 Bool.false_ne_true
          clear HFi hr
          generalize (rk (fol l Nn at_) 0 : Int) = rr0 at *
          go_wp2_with (go_at_call 23; refine hce.mono ?_; rintro e w3 ⟨rfl, rfl⟩)
          go_ret2
          exact ⟨HE2.out.1, Nn, HF2.out.1, .inr ⟨F.out, rfl⟩⟩
      · have hne : ((rk (fol l Nn at_) 0 : Int) != (at_ : Int)) = true := by simp; omega
        have F : Hid (¬ Fits l (fol l Nn at_) at_) := fun hh => hr (HFi.out.1 hh).2
        clear HFi hr hce
        generalize (rk (fol l Nn at_) 0 : Int) = rr0 at *
        go_wp2
        go_ret2
        exact ⟨HE2.out.1, Nn, HF2.out.1, .inr ⟨F.out, rfl⟩⟩
  exact WALK

end Go.Proofs.Ytkccdhidmihekaa
