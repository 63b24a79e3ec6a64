/-
  quipuref.Grays.
-/
import Derived.Test.YtioaohcnlgbnnaaGr
import Derived.Test.YtioaohcnlgbnnaaOu
import Derived.Test.YtioaohcnlgbnnaaBt
namespace Go.Proofs.Ytioaohcnlgbnnaa
open Go.RowKit
set_option linter.unusedVariables false

theorem OwnU.one (w : World) (q : Nat) : OwnU w (w.alloc (.cells #[.int .u32 q] 22)) (.slice (some ⟨w.heap.size, 0, none⟩) 1 1) [q] :=
  ⟨(Ext.refl w).alloc _, rfl, Or.inr ⟨w.heap.size, 1, #[.int .u32 q], rfl, Nat.le_refl _, heap_alloc_new _ _, Nat.le_refl _, by simp [maxLen], rfl, rfl⟩⟩

set_option maxHeartbeats 2000000 in
/-- quipuref.Grays. -/
theorem grays_any (n : Nat) (hn : n ≤ 12) (w : World) : Calls Try.prog 10 #[.int .i64 n] w fun e w' => ∃ v, e = .returned v ∧ OwnU w w' v (grl (2 ^ n)) := by
  obtain ⟨L, hL⟩ : ∃ L : Nat → List Nat, ∀ m, L m = grl m := ⟨_, fun _ => rfl⟩
  obtain ⟨G, hG⟩ : ∃ G : Nat → Nat, ∀ m, G m = gr m := ⟨_, fun _ => rfl⟩
  obtain ⟨P, hP⟩ : ∃ P : Nat → Nat, ∀ m, P m = 2 ^ m := ⟨_, fun _ => rfl⟩
  have LL : Hid (∀ m, (L m).length = m) := fun m => by rw [hL]; exact grl_len m
  have LA : Hid (∀ m i, i < m → (L m).getD i 0 = G i) := fun m i h => by rw [hL, hG]; exact grl_at h
  have LS : Hid (∀ m, L (m + 1) = L m ++ [G m]) := fun m => by rw [hL, hL, hG]; exact grl_snoc m
  have GF : Hid (∀ k i j, k < 12 → i + j + 1 = P k → G i + P k = G (P k + j)) := fun k i j hk h => by
    rw [hP] at *
    rw [hG, hG, gr_fold hk (by omega)]
    congr 2
    omega
  have GB : Hid (∀ i, i < 8192 → G i < 8192) := fun i h => by rw [hG]; exact gr_lt (n := 13) h
  have PN : Hid (∀ k, P (k + 1) = P k + P k) := fun k => by rw [hP, hP, Nat.pow_succ]; omega
  have PL : Hid (∀ k, k ≤ 12 → 0 < P k ∧ P k ≤ 4096) := fun k h => by
    rw [hP]
    exact ⟨Nat.two_pow_pos k, Nat.pow_le_pow_right (n := 2) (by omega) h⟩
  have PW : Hid (∀ k : Nat, k < 32 → (2 : Int) ^ k % 4294967296 = ((P k : Nat) : Int)) := fun k h => by rw [hP k]; exact pow_in k h
  have F0 : Hid (L (P 0) = [0]) := by rw [hP, hL]; rfl
  have FI : Hid (grl (2 ^ n) = L (P n)) := by show _ = _; rw [hL, hP]
  clear hL hG hP
  rw [FI.out]
  clear FI
  go_enter Try.func10, Try.ntmps10
  go_wp2
  go_loopg [3, 4, 5] n (fun gg s3 s4 _ wr => ∃ k : Nat, k ≤ n ∧ n - k ≤ gg ∧ s4 = .int .i64 k ∧ Aside (OwnU w wr s3 (L (P k))))
  case atStart => exact ⟨0, Nat.zero_le _, by omega, rfl, by show OwnU _ _ _ _; rw [F0.out]; exact OwnU.one w 0⟩
  case round =>
    obtain ⟨k, hk, hgg, rfl, O⟩ := hrel
    by_cases hlt : k < n
    · have hltz : (k : Int) < (n : Int) := by omega
      have O1 : Hid (OwnU w wr u3 (L (P k))) := O.out
      obtain ⟨hp0, hp1⟩ := PL.out k (by omega)
      have gf : Hid (∀ i j, i + j + 1 = P k → G i + P k = G (P k + j)) := fun i j h => GF.out k i j (by omega) h
      have pn := PN.out k
      have pw := PW.out k (by omega)
      obtain ⟨a, c, rfl⟩ : ∃ a c, u3 = .slice a (P k) c := by
        obtain ⟨x, rfl, hz, _⟩ := O1.out.us
        refine ⟨x.a, x.c, ?_⟩
        show Value.slice _ _ _ = _
        rw [hz, LL.out]
      have NX : Hid (L (P (k + 1)) = L (P k + P k)) := by show _ = _; rw [pn]
      have Z0 : Hid (OwnU w wr (.slice a (P k) c) (L (P k + 0))) := O1.out
      clear O O1 GF PN PL PW F0 pn
      have hb2 : Hid (P k ≤ 4096) := hp1
      have pk : Hid ((2 : Int) ^ k % 4294967296 = ((P k : Nat) : Int)) := pw
      generalize hPk : P k = p at *
      clear hPk pw
      go_wp2
      go_loopg [3, 5] p (fun gg s3 s5 wr2 => ∃ j : Nat, j ≤ p ∧ p - j ≤ gg ∧ s5 = .int .i64 ((p : Int) - 1 - j) ∧ Aside (OwnU w wr2 s3 (L (p + j))))
      case atStart => exact ⟨0, Nat.zero_le _, by omega, by go_num, Z0.out⟩
      case round =>
        obtain ⟨j, hj, hgj, rfl, O⟩ := hrel
        by_cases hjl : j < p
        · obtain ⟨i, hi⟩ : ∃ i : Nat, i + j + 1 = p := ⟨p - 1 - j, by omega⟩
          have hie : (p : Int) - 1 - (j : Int) = (i : Int) := by omega
          rw [hie]
          have OO : Hid (OwnU w wr u3 (L (p + j))) := O.out
          obtain ⟨x, hx, hz, hus⟩ := O.out.us
          have hl := LL.out (p + j)
          rw [← hz] at hl
          obtain ⟨a2, c2, g⟩ := x
          obtain ⟨h1, h2, _, b, o, h4, h5⟩ := hus
          simp only at h1 h2 h4 h5 hl hz
          simp only [Um.v] at hx
          obtain rfl := h4 (by omega)
          have e1 := h5 i (by omega)
          rw [hz, LA.out (p + j) i (by omega)] at e1
          rw [hl] at hx
          have gf := gf.out i j hi
          have gb := GB.out i (by have := hb2.out; omega)
          have NL : Hid (L (p + (j + 1)) = L (p + j) ++ [G i + p]) := by rw [gf, ← LS.out]; rfl
          have hfl : Hid (((L (p + j)).length + 1) * 4 ≤ 140737488355328) := by show _ ≤ _; rw [LL.out]; have := hb2.out; omega
          have hp4 : p ≤ 4096 := hb2.out
          have pw : (2 : Int) ^ k % 4294967296 = ((p : Nat) : Int) := pk.out
          subst hx
          clear O h4 h5 LL LA LS GB NX Z0 hz gf
          generalize G i = q at *
          obtain ⟨z, hz⟩ : ∃ z, q + p = z := ⟨_, rfl⟩
          have hzi : (q : Int) + (p : Int) = (z : Int) := by omega
          rw [hz] at NL
          have hil : (i : Int) < ((p + j : Nat) : Int) := by omega
          have hzb : z < 16384 := by omega
          clear hz
          go_wp2_with (at_builtin; refine wpList_appendU rfl _ _ rfl w _ (.slice (some ⟨b, o, none⟩) (p + j) c2) (by rfl) _ OO.out z (by rfl) hfl.out ?_; intro v' w3 O3; have O3' : Hid (OwnU w w3 v' (L (p + (j + 1)))) := by (rw [NL.out]; exact O3))
          go_roundg (p - (j + 1))
          case measure => omega
          case rel => exact ⟨j + 1, by omega, by omega, by go_num, O3'.out⟩
        · obtain rfl : j = p := by omega
          rw [show (j : Int) - 1 - (j : Int) = -1 by omega]
          have O2 : Hid (OwnU w wr u3 (L (P (k + 1)))) := by (rw [NX.out]; exact O.out)
          clear O NX LL LA LS GB gf Z0
          go_wp2
          go_roundg (n - (k + 1))
          case measure => omega
          case rel => exact ⟨k + 1, by omega, by omega, by go_num, O2.out⟩
    · obtain rfl : k = n := by omega
      clear GF PN PL PW F0 LL LA LS GB
      go_wp2
      go_ret
      exact ⟨_, rfl, O.out⟩

theorem OwnU.at {w0 w : World} {v : Value} {z : List Nat} (h : OwnU w0 w v z) (h0 : 0 < z.length) : ∃ b o c, v = .slice (some ⟨b, o, none⟩) z.length c ∧ ∀ i, i < z.length → w.cell? ⟨b, o + i, none⟩ = some (.int .u32 (z.getD i 0 : Nat)) := by
  obtain ⟨x, rfl, rfl, hus⟩ := h.us
  obtain ⟨a, c, g⟩ := x
  obtain ⟨h1, h2, _, b, o, h4, h5⟩ := hus
  simp only at h0 h4 h5
  obtain rfl := h4 h0
  exact ⟨b, o, c, rfl, h5⟩

/-- quipuref.Grays, cell by cell. -/
theorem grays_at (n : Nat) (hn : n ≤ 12) (w : World) : Calls Try.prog 10 #[.int .i64 n] w fun e w' => ∃ b o c, e = .returned (.slice (some ⟨b, o, none⟩) (2 ^ n) c) ∧ (∀ i, i < 2 ^ n → w'.cell? ⟨b, o + i, none⟩ = some (.int .u32 (gr i : Nat))) ∧ Ext w w' := by
  refine (grays_any n hn w).mono ?_
  rintro e w' ⟨v, rfl, h⟩
  have h0 := Nat.two_pow_pos n
  obtain ⟨b, o, c, rfl, hc⟩ := h.at (by rw [grl_len]; exact h0)
  rw [grl_len] at hc ⊢
  refine ⟨b, o, c, rfl, fun i hi => ?_, h.1⟩
  rw [hc i hi, grl_at hi]

end Go.Proofs.Ytioaohcnlgbnnaa
