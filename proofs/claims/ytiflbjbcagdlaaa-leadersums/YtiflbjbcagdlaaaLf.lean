/-
  leader.leaders, leader.Mark, leader.Leader, leader.Fix.
-/
import Derived.Test.YtiflbjbcagdlaaaLs
namespace Go.Proofs.Ytiflbjbcagdlaaa
open Go.RowKit
set_option linter.unusedVariables false

theorem we_zero {n : Int} {g : List Nat} {q k : Nat} (h : we n g q k = 0) : re n g = 0 := by
  by_cases c : re n g = 0
  · exact c
  · rw [we_bad c] at h; exact h
theorem we_low {n : Int} {g : List Nat} {q k : Nat} (h : we n g q k = 0) : q < 2 ^ k := by
  have c := we_zero h
  unfold we at h
  rw [if_pos c] at h
  by_cases d : q < 2 ^ k
  · exact d
  · rw [if_neg d] at h; omega

/-- leader.leaders. -/
theorem leaders_any (n : Nat) (hn : n ≤ 12) (x : Um) (hl : x.z.length ≤ 8) (hb : ∀ y ∈ x.z, y < 2 ^ n) (w : World) (hx : Us w x) :
    Calls Try.prog 23 #[.int .i64 n, x.v] w fun e w' => ∃ B, e = .returned (.map (some B)) ∧ Hid (LM (mk x.z) w' B (2 ^ n)) ∧ Ext w w' := by
  have hM : 2 ^ n ≤ 2 ^ 12 := Nat.pow_le_pow_right (by omega) hn
  have pw : (2 : Int) ^ n % 4294967296 = ((2 ^ n : Nat) : Int) := pow_in n (by omega)
  have HK : Hid (∀ q W, q < 2 ^ n → Ext w W → Calls Try.prog 19 #[x.v, .int .u32 (q : Nat)] W fun e w' => e = .returned (.int .u32 (mk x.z q : Nat)) ∧ Ext W w') := fun q W hq E =>
    markOf_any x q hl (fun y hy => by have := hb y hy; omega) (by omega) W (hx.ext E)
  have HQ : Hid (∀ q, mk x.z q < 4294967296) := fun q => by
    have := mk_lt x.z q
    have : 2 ^ x.z.length ≤ 2 ^ 8 := Nat.pow_le_pow_right (by omega) hl
    omega
  have HO : ∀ z W, z < 4096 → Calls Try.prog 28 #[.int .u32 (z : Nat)] W fun e w' => e = .returned (.int .i64 (pop z : Nat)) ∧ ∃ d, w' = W.drewN d := fun z W hz => ones_any z hz W
  have HO' : Hid (∀ z W, z < 4096 → Calls Try.prog 28 #[.int .u32 (z : Nat)] W fun e w' => e = .returned (.int .i64 (pop z : Nat)) ∧ ∃ d, w' = W.drewN d) := HO
  clear hb hx HO
  generalize mk x.z = f at *
  generalize 2 ^ n = M at *
  obtain ⟨a, c, g⟩ := x
  simp only [Um.v] at *
  generalize g.length = gl at *
  have L0 : Hid (LM f (w.alloc (.map #[] 0)) w.heap.size 0) := LM.made f w
  have E0 : Hid (Ext w (w.alloc (.map #[] 0))) := (Ext.refl w).alloc _
  have hmm := @run_makeMap Try.prog
  go_enter Try.func23, Try.ntmps23
  go_wp2
  rw [pw]
  clear pw hmm
  go_loopg [13] M (fun gg s13 wr => ∃ k : Nat, k ≤ M ∧ M - k ≤ gg ∧ s13 = .int .u32 k ∧ Aside (LM f wr w.heap.size k) ∧ Aside (Ext w wr))
  case atStart => exact ⟨0, Nat.zero_le _, by omega, rfl, L0.out, E0.out⟩
  case round =>
    obtain ⟨k, hk, hg, rfl, L, X⟩ := hrel
    clear L0 E0
    by_cases hlt : k < M
    · have hltz : (k : Int) < (M : Int) := by omega
      have c1 := HK.out k wr hlt X.out
      have hq := HQ.out k
      have HS : Hid (∀ l, bst f (f k) k = some l → l < k) := fun l h => (bst_some h).lt
      have NEW : Hid (bst f (f k) k = none → bst f (f k) (k + 1) = some k) := bst_new
      have LESS : Hid (∀ l, bst f (f k) k = some l → pop k < pop l → bst f (f k) (k + 1) = some k) := fun l => bst_less
      have STAY : Hid (∀ l, bst f (f k) k = some l → ¬ pop k < pop l → bst f (f k) (k + 1) = some l) := fun l => bst_stay
      obtain ⟨y, hy⟩ : ∃ y, f k = y := ⟨_, rfl⟩
      have HY : Hid (f k = y) := hy
      rw [hy] at c1 hq HS NEW LESS STAY
      clear hy HK HQ
      obtain ⟨r, hr⟩ : ∃ r, bst f y k = r := ⟨_, rfl⟩
      have HR : Hid (bst f y k = r) := hr
      rw [hr] at HS NEW LESS STAY
      clear hr
      cases r with
      | none =>
        have NX : Hid (bst f y (k + 1) = some k) := NEW.out rfl
        clear HS NEW LESS STAY HO'
        go_wp2_with (first | (go_at_call 19; refine c1.mono ?_; rintro e w2 ⟨rfl, E2⟩; have L2 : Hid (LM f w2 w.heap.size k) := L.out.ext E2; have X2 : Hid (Ext w w2) := X.out.trans E2; clear c1 E2) | (at_lookup; refine wpList_look rfl _ _ rfl _ f w.heap.size k rfl L2.out y hq rfl 0 false (by rw [HR.out]; rfl) (by rw [HR.out]; rfl) ?_) | (at_mapUpdate; refine wpList_putL rfl _ _ _ rfl w _ f w.heap.size k rfl L2.out (by omega) y hq HY.out NX.out rfl rfl X2.out (Nat.le_refl _) ?_; intro w3 L3 X3; have L3' : Hid (LM f w3 w.heap.size (k + 1)) := L3; have X3' : Hid (Ext w w3) := X3; clear L3 X3))
        go_roundg (M - (k + 1))
        case measure => omega
        case rel => exact ⟨k + 1, by omega, by omega, by go_num, L3'.out, X3'.out⟩
      | some l =>
        have hlk := HS.out l rfl
        have HA : Hid (∀ W, Calls Try.prog 28 #[.int .u32 (k : Nat)] W fun e w' => e = .returned (.int .i64 (pop k : Nat)) ∧ ∃ d, w' = W.drewN d) := fun W => HO'.out k W (by omega)
        have HB : Hid (∀ W, Calls Try.prog 28 #[.int .u32 (l : Nat)] W fun e w' => e = .returned (.int .i64 (pop l : Nat)) ∧ ∃ d, w' = W.drewN d) := fun W => HO'.out l W (by omega)
        clear HO'
        by_cases hp : pop k < pop l
        · have NX : Hid (bst f y (k + 1) = some k) := LESS.out l rfl hp
          clear HS NEW LESS STAY
          generalize pop k = pk at *
          generalize pop l = pl at *
          have hpz : (pk : Int) < (pl : Int) := by omega
          go_wp2_with (first | (go_at_call 19; refine c1.mono ?_; rintro e w2 ⟨rfl, E2⟩; have L2 : Hid (LM f w2 w.heap.size k) := L.out.ext E2; have X2 : Hid (Ext w w2) := X.out.trans E2; clear c1 E2) | (at_lookup; refine wpList_look rfl _ _ rfl _ f w.heap.size k rfl L2.out y hq rfl l true (by rw [HR.out]; rfl) (by rw [HR.out]; rfl) ?_))
          refine (HA.out _).mono ?_
          rintro e v1 ⟨rfl, d1, rfl⟩
          go_wp2_with fail
          refine (HB.out _).mono ?_
          rintro e v2 ⟨rfl, d2, rfl⟩
          have EE : Hid (Ext w2 ((w2.drewN d1).drewN d2)) := ((Ext.refl w2).drewN d1).drewN d2
          clear HA HB
          generalize (w2.drewN d1).drewN d2 = wd at *
          go_wp2_with ((at_mapUpdate; refine wpList_putL rfl _ _ _ rfl w _ f w.heap.size k rfl (L2.out.ext EE.out) (by omega) y hq HY.out NX.out rfl rfl (X2.out.trans EE.out) (Nat.le_refl _) ?_; intro w3 L3 X3; have L3' : Hid (LM f w3 w.heap.size (k + 1)) := L3; have X3' : Hid (Ext w w3) := X3; clear L3 X3))
          go_roundg (M - (k + 1))
          case measure => omega
          case rel => exact ⟨k + 1, by omega, by omega, by go_num, L3'.out, X3'.out⟩
        · have NX : Hid (bst f (f k) (k + 1) = bst f (f k) k) := by
            show _ = _
            rw [HY.out, HR.out]
            exact STAY.out l rfl hp
          clear HS NEW LESS STAY
          generalize pop k = pk at *
          generalize pop l = pl at *
          have hpz : ¬ (pk : Int) < (pl : Int) := by omega
          go_wp2_with (first | (go_at_call 19; refine c1.mono ?_; rintro e w2 ⟨rfl, E2⟩; have L2 : Hid (LM f w2 w.heap.size k) := L.out.ext E2; have X2 : Hid (Ext w w2) := X.out.trans E2; clear c1 E2) | (at_lookup; refine wpList_look rfl _ _ rfl _ f w.heap.size k rfl L2.out y hq rfl l true (by rw [HR.out]; rfl) (by rw [HR.out]; rfl) ?_))
          refine (HA.out _).mono ?_
          rintro e v1 ⟨rfl, d1, rfl⟩
          go_wp2_with fail
          refine (HB.out _).mono ?_
          rintro e v2 ⟨rfl, d2, rfl⟩
          have EE : Hid (Ext w2 ((w2.drewN d1).drewN d2)) := ((Ext.refl w2).drewN d1).drewN d2
          clear HA HB
          generalize (w2.drewN d1).drewN d2 = wd at *
          have L3 : Hid (LM f wd w.heap.size (k + 1)) := (L2.out.ext EE.out).stay NX.out
          have X3 : Hid (Ext w wd) := X2.out.trans EE.out
          go_wp2
          go_roundg (M - (k + 1))
          case measure => omega
          case rel => exact ⟨k + 1, by omega, by omega, by go_num, L3.out, X3.out⟩
    · obtain rfl : k = M := by omega
      have hltz : ¬ (k : Int) < (k : Int) := by omega
      go_wp2
      go_ret
      exact ⟨_, rfl, L.out, X.out⟩

/-- leader.Mark. -/
theorem mark_any (n : Int) (x : Um) (hb : ∀ y ∈ x.z, y < 4294967296) (q : Nat) (hq : q < 4294967296) (w : World) (hx : Us w x) :
    Calls Try.prog 8 #[.int .i64 n, x.v, .int .u32 (q : Nat)] w fun e w' => e = .returned (.tuple #[.int .u32 (if we n x.z q n.toNat = 0 then mk x.z q else 0 : Nat), .int .i64 (we n x.z q n.toNat)]) ∧ Ext w w' := by
  have c1 := checkWord_any n x hb q hq w hx
  by_cases h : we n x.z q n.toNat = 0
  · obtain ⟨m, rfl, hm, h2, h3⟩ := re_zero (we_zero h)
    have hM : 2 ^ m ≤ 2 ^ 12 := Nat.pow_le_pow_right (by omega) hm
    have hqm := we_low h
    simp only [Int.toNat_natCast] at hqm
    have c2 : Hid (∀ W, Ext w W → Calls Try.prog 19 #[x.v, .int .u32 (q : Nat)] W fun e w' => e = .returned (.int .u32 (mk x.z q : Nat)) ∧ Ext W w') := fun W E =>
      markOf_any x q h2 (fun y hy => by have := h3 y hy; omega) (by omega) W (hx.ext E)
    rw [h] at c1 ⊢
    rw [if_pos rfl]
    clear h hb hx h2 h3
    generalize mk x.z q = R at *
    obtain ⟨a, c, g⟩ := x
    simp only [Um.v] at *
    generalize g.length = gl at *
    go_enter Try.func8, Try.ntmps8
    go_wp2_with fail
    refine c1.mono ?_
    rintro e w2 ⟨rfl, E2⟩
    have c2' := c2.out w2 E2
    have X2 : Hid (Ext w w2) := E2
    clear c1 c2 E2
    go_wp2_with fail
    refine c2'.mono ?_
    rintro e w3 ⟨rfl, E3⟩
    have X3 : Hid (Ext w w3) := X2.out.trans E3
    clear c2' E3
    go_wp2
    go_ret2
    exact ⟨rfl, X3.out⟩
  · have hz : (we n x.z q n.toNat != 0) = true := by rw [bne_iff_ne]; exact h
    rw [if_neg h]
    clear h hb hx
    generalize we n x.z q n.toNat = R at *
    obtain ⟨a, c, g⟩ := x
    simp only [Um.v] at *
    generalize g.length = gl at *
    go_enter Try.func8, Try.ntmps8
    go_wp2_with fail
    refine c1.mono ?_
    rintro e w2 ⟨rfl, E2⟩
    have X2 : Hid (Ext w w2) := E2
    clear c1 E2
    go_wp2
    go_ret2
    exact ⟨rfl, X2.out⟩

end Go.Proofs.Ytiflbjbcagdlaaa
