/-
  The places of the bits that are set; the least of them by the table that the program lays. Nothing in its first half speaks of the program.
-/
import Derived.Test.YtjdipgkdaloclaaDoorTwo
import Derived.Test.YtjdipgkdaloclaaDoorRw
import Derived.Laws.BitsAllLaws
namespace Go.Proofs.YtjdipgkdaloclaaDoor
open Go.RowKit
set_option linter.unusedVariables false

/-- The places of the bits of a set that are set, rising. -/
def pl (s : Nat) : List Nat := (List.range 9).filter fun i => s.testBit i
/-- The least of them. -/
def lz (s : Nat) : Nat := (pl s).headD 0
/-- The place of the table at which the number of a power of two lies. -/
def tix (k : Nat) : Nat := 2 ^ k * 125613361 % 4294967296 / 134217728

set_option maxRecDepth 100000 in
theorem pl_step0 : ∀ s : Fin 512, s.val ≠ 0 → pl s.val = lz s.val :: pl (s.val &&& (s.val - 1)) ∧ s.val &&& (s.val - 1) < s.val := by decide +kernel
theorem pl_step {s : Nat} (hs : s < 512) (h0 : s ≠ 0) : pl s = lz s :: pl (s &&& (s - 1)) ∧ s &&& (s - 1) < s := pl_step0 ⟨s, hs⟩ h0
set_option maxRecDepth 100000 in
theorem pl_pop0 : ∀ s : Fin 512, (pl s.val).length = pop s.val := by decide +kernel
theorem pl_pop {s : Nat} (hs : s < 512) : (pl s).length = pop s := pl_pop0 ⟨s, hs⟩
set_option maxRecDepth 100000 in
theorem pl_low0 : ∀ s : Fin 512, s.val ≠ 0 → s.val &&& (4294967296 - s.val) = 2 ^ lz s.val ∧ lz s.val < 9 := by decide +kernel
theorem tix_lt0 : ∀ k : Fin 9, tix k.val < 32 := by decide +kernel

theorem pl_pw (s : Nat) : (pl s).Pairwise (· ≠ ·) := (List.Pairwise.filter _ (List.pairwise_lt_range (n := 9))).imp (fun h => Nat.ne_of_lt h)
theorem pl_mem {s i : Nat} : i ∈ pl s ↔ i < 9 ∧ s.testBit i = true := by
  unfold pl
  rw [List.mem_filter, List.mem_range]
theorem pl_below {n s : Nat} (hn : n ≤ 9) (hs : s < 2 ^ n) : (List.range n).filter (fun i => s.testBit i) = pl s := by
  unfold pl
  have : ∀ e, (List.range (n + e)).filter (fun i => s.testBit i) = (List.range n).filter (fun i => s.testBit i) := by
    intro e
    induction e with
    | zero => rfl
    | succ e ih =>
      rw [← Nat.add_assoc, List.range_succ, List.filter_append, ih]
      have hb : s.testBit (n + e) = false := Nat.testBit_lt_two_pow (Nat.lt_of_lt_of_le hs (Nat.pow_le_pow_right (by omega) (by omega)))
      simp [hb]
  rw [← this (9 - n), show n + (9 - n) = 9 by omega]

/-- The table lies there. -/
def TB (w : World) : Prop := ∀ k : Nat, k ≤ 8 → w.cell? ⟨0, tix k, none⟩ = some (.int .u8 k)
theorem TB.ext {w w' : World} (h : TB w) (e : Ext w w') : TB w' := fun k hk => e.cell (h k hk)

theorem tix_of {s : Nat} (hs : s < 512) (h0 : s ≠ 0) : bits BinOp.and IntKind.u32 (s : Int) (-(s : Int) % 4294967296) * 125613361 % 4294967296 / 134217728 = (tix (lz s) : Int) ∧ tix (lz s) < 32 ∧ lz s ≤ 8 := by
  obtain ⟨h1, h2⟩ := pl_low0 ⟨s, hs⟩ h0
  simp only at h1 h2
  refine ⟨?_, tix_lt0 ⟨lz s, h2⟩, by omega⟩
  have e1 : -(s : Int) % 4294967296 = ((4294967296 - s : Nat) : Int) := by omega
  rw [e1, u32_and_nat _ _ (by omega) (by omega), h1]
  unfold tix
  generalize 2 ^ lz s = X
  omega

set_option maxHeartbeats 1000000 in
theorem tz_core (x k idx : Nat) (w : World) (hx0 : ((x : Int) == 0) = false)
    (key : bits BinOp.and IntKind.u32 (x : Int) (-(x : Int) % 4294967296) * 125613361 % 4294967296 / 134217728 = (idx : Int))
    (hi : idx < 32) (hk : k < 64) (hcell : w.cell? ⟨0, idx, none⟩ = some (.int .u8 k)) :
    Calls Tryd.prog 34 #[.int .u32 x] w fun e w' => e = .returned (.int .i64 k) ∧ w' = w := by
  go_enter Tryd.func34, Tryd.ntmps34
  go_wp2
  go_ret
  exact ⟨rfl, rfl⟩

theorem tz_any (s : Nat) (hs : s < 512) (h0 : s ≠ 0) (w : World) (h : TB w) : Calls Tryd.prog 34 #[.int .u32 s] w fun e w' => e = .returned (.int .i64 (lz s : Nat)) ∧ w' = w := by
  obtain ⟨h1, h2, h3⟩ := tix_of hs h0
  exact tz_core s (lz s) (tix (lz s)) w (beq_eq_false_iff_ne.2 (by omega)) h1 h2 (by omega) (h _ h3)

theorem po_any (s : Nat) (hs : s < 512) (w : World) (h : TB w) : Calls Tryd.prog 24 #[.int .u32 s] w fun e w' => ∃ v, e = .returned v ∧ OwnN w w' v (zl (pl s)) := by
  have TZ : Hid (∀ (t : Nat) W, t < 512 → t ≠ 0 → Ext w W → Calls Tryd.prog 34 #[.int .u32 t] W fun e w' => e = .returned (.int .i64 (lz t : Nat)) ∧ w' = W) := fun t W ht h0 E => tz_any t ht h0 W (h.ext E)
  have ST : Hid (∀ t, t < 512 → t ≠ 0 → zl (pl t) = [((lz t : Nat) : Int)] ++ zl (pl (t &&& (t - 1))) ∧ t &&& (t - 1) < t) := fun t ht h0 => ⟨by rw [(pl_step ht h0).1]; rfl, (pl_step ht h0).2⟩
  have AN : Hid (∀ t : Nat, t < 512 → t ≠ 0 → bits BinOp.and IntKind.u32 (t : Int) ((t : Int) - 1) = ((t &&& (t - 1) : Nat) : Int)) := fun t ht h0 => by
    have := u32_and_nat t (t - 1) (by omega) (by omega)
    rw [show ((t - 1 : Nat) : Int) = (t : Int) - 1 by omega] at this
    exact this
  have LL : Hid (∀ t, t < 512 → (zl (pl t)).length ≤ 9) := fun t ht => by
    rw [zl_len]
    have := List.length_filter_le (fun i => t.testBit i) (List.range 9)
    rw [List.length_range] at this
    exact this
  have Z0 : Hid (zl (pl 0) = []) := rfl
  have hl := LL.out s hs
  clear h
  obtain ⟨G, hG⟩ : ∃ G : Nat → List Int, G = fun t => zl (pl t) := ⟨_, rfl⟩
  have ST1 : Hid (∀ t, t < 512 → t ≠ 0 → G t = [((lz t : Nat) : Int)] ++ G (t &&& (t - 1)) ∧ t &&& (t - 1) < t) := by rw [hG]; exact ST.out
  have Z1 : Hid (G 0 = []) := by rw [hG]; exact Z0.out
  have FF : Hid (G s = zl (pl s)) := by rw [hG]; rfl
  clear hG ST Z0 LL
  generalize zl (pl s) = R at *
  go_enter Tryd.func24, Tryd.ntmps24
  go_wp2
  go_loopg [0, 3] s (fun gg s0 s3 wr => ∃ (t : Nat) (P : List Int), t ≤ s ∧ t ≤ gg ∧ s0 = .int .u32 t ∧ Aside (OwnN w wr s3 P) ∧ Aside (P ++ G t = R))
  case atStart => exact ⟨s, [], Nat.le_refl _, Nat.le_refl _, rfl, OwnN.nil (Ext.refl w), by rw [List.nil_append]; exact FF.out⟩
  case round =>
    obtain ⟨t, P, ht, hgg, rfl, O, A⟩ := hrel
    by_cases h0 : t = 0
    · subst h0
      have e : P = R := by
        have := A.out
        rw [Z1.out, List.append_nil] at this
        exact this
      subst e
      go_wp2
      go_ret
      exact ⟨_, rfl, O.out⟩
    · have hz : ((t : Int) != 0) = true := bne_iff_ne.2 (by omega)
      have c1 := TZ.out t wr (by omega) h0 O.out.1
      have st := ST1.out t (by omega) h0
      have an := AN.out t (by omega) h0
      have hlen : P.length ≤ 9 := by
        have := congrArg List.length A.out
        rw [List.length_append] at this
        omega
      have A2 : Hid ((P ++ [((lz t : Nat) : Int)]) ++ G (t &&& (t - 1)) = R) := by
        rw [Hid, List.append_assoc, ← st.1]
        exact A.out
      have h2 := st.2
      have O2 : Hid (OwnN w wr u3 P) := O.out
      obtain ⟨a, c, hv⟩ := O.out.form
      subst hv
      clear st O A AN ST1 TZ
      obtain ⟨pn, hpn⟩ : ∃ pn, P.length = pn := ⟨_, rfl⟩
      rw [hpn] at O2 hlen ⊢
      have LZ : Hid (P.length + 1 ≤ 1000000) := by rw [Hid]; omega
      clear hpn
      generalize t &&& (t - 1) = t2 at *
      generalize lz t = lt at *
      go_wp2_with fail
      refine c1.mono ?_
      rintro e w' ⟨rfl, hh⟩
      have hh := hh.symm
      subst hh
      clear c1
      go_wp2_with (at_builtin; refine wpList_appendNum rfl _ _ rfl w _ (.slice a pn c) rfl P O2.out _ rfl (by have := LZ.out; omega) ?_; intro v2 w2 O3)
      have O4 : Hid (OwnN w w2 v2 (P ++ [(lt : Int)])) := O3
      clear O3 O2
      go_wp2
      go_roundg t2
      case measure => omega
      case rel => exact ⟨t2, P ++ [(lt : Int)], by omega, by omega, rfl, O4.out, A2.out⟩

end Go.Proofs.YtjdipgkdaloclaaDoor
