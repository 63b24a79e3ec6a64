/-
  quipuref.Hamm: the first number whose bits at the powers of 2 make the pointer 0.
-/
import Derived.Test.YtdplmaofapnhhaaOw
import Derived.Test.YtdplmaofapnhhaaRef
namespace Go.Proofs.Ytdplmaofapnhhaa
open Go.RowKit
set_option linter.unusedVariables false

theorem nc_small : ∀ k : Fin 15, isC (k.1 + 1) = true → k.1 - nd 1 k.1 = lg (k.1 + 1) := by decide
theorem nd_small : ∀ k : Fin 16, nd 1 k.1 ≤ k.1 := by decide
theorem pow_five (r : Nat) (h : R r) : wrap64 (2 ^ r) = ((2 ^ r - 1 : Nat) : Int) + 1 := by
  obtain rfl | rfl | rfl := h.cases <;> simp [wrap64]

theorem mx_take {r x k : Nat} {d : List Bool} (hk : k < 2 ^ r - 1) : (mx r x d).take (k + 1) = (mx r x d).take k ++ [if isC (k + 1) then x.testBit (lg (k + 1)) else d.getD (nd 1 k) false] := by
  rw [take_snoc (by unfold mx; rw [mg_len]; exact hk)]
  congr 2
  unfold mx
  rw [mg_at _ 1 k _ d hk, Nat.add_comm 1 k]

set_option maxHeartbeats 2000000 in
theorem refHamm_any {r : Nat} (hr : R r) (x : Wd) (hd : x.l.length = 2 ^ r - 1 - r) (w : World) (hx : Bits w x) :
    Calls Try.prog 12 #[.int .i64 r, x.v] w fun e w' => ∃ v, e = .returned v ∧ OwnB w w' v (hp r x.l) := by
  have h15 : 3 ≤ 2 ^ r - 1 ∧ 2 ^ r - 1 ≤ 15 := by obtain rfl | rfl | rfl := hr.cases <;> decide
  have hr4 : 2 ≤ r ∧ r ≤ 4 := hr
  have pw := pow_five r hr
  have Hlt : Hid (∀ k, k < 2 ^ r - 1 → isC (k + 1) = false → nd 1 k < 2 ^ r - 1 - r) := fun k hk hc => nd_lt hr hk hc
  obtain ⟨a, c, d⟩ := x
  obtain ⟨h1, h2, _, b, o, h4, h5⟩ := hx
  simp only at h1 h2 h4 h5 hd
  simp only [Wd.v]
  rw [hd] at h1 h4 h5 ⊢
  obtain ⟨p, hp0⟩ : ∃ p, pf 1 (mb r d) = p := ⟨_, rfl⟩
  have hR2 : 2 ^ r ≤ 2 ^ 4 := Nat.pow_le_pow_right (by omega) hr4.2
  have hpr : p < 2 ^ r := by rw [← hp0]; exact mb_lt d
  have hpl : p < 16 := by omega
  obtain ⟨S, hS⟩ : ∃ S : Nat → Nat → List Bool, ∀ s k, S s k = (mx r s d).take k := ⟨_, fun _ _ => rfl⟩
  have NXC : Hid (∀ s k, k < 2 ^ r - 1 → isC (k + 1) = true → S s (k + 1) = S s k ++ [s.testBit (k - nd 1 k)]) := fun s k hk hc => by
    rw [hS, hS, mx_take hk, if_pos hc]
    rw [show k - nd 1 k = lg (k + 1) from nc_small ⟨k, by omega⟩ hc]
  have NXD : Hid (∀ s k, k < 2 ^ r - 1 → isC (k + 1) = false → S s (k + 1) = S s k ++ [d.getD (nd 1 k) false]) := fun s k hk hc => by
    rw [hS, hS, mx_take hk, if_neg (by rw [hc]; decide)]
  have LE : Hid (∀ s k, k ≤ 15 → (S s k).length + 1 ≤ 140737488355328) := fun s k hk => by
    rw [hS, List.length_take]; omega
  have SA : Hid (∀ s, s ≤ p → S s (2 ^ r - 1) = mx r s d ∧ (mx r s d).length = 2 ^ r - 1 ∧ (pf 1 (mx r s d) = 0 ↔ s = p) ∧ pf 1 (mx r s d) < 2 ^ r) := fun s hs => by
    have hl : (mx r s d).length = 2 ^ r - 1 := mg_len _ _ _ _
    refine ⟨by rw [hS, ← hl, List.take_length], hl, ?_, ?_⟩
    · rw [← hp0]; exact mx_zero hr (by omega)
    · exact pf_lt r _ 1 (by rw [hl]; omega)
  have HPX : Hid (hp r d = mx r p d) := by show _ = _; unfold hp; rw [hp0]
  have HC : Hid (∀ i, i < 2 ^ r - 1 - r → w.cell? ⟨b, o + i, none⟩ = some (.bool (d.getD i false))) := h5
  have NS : Hid (∀ k, nd 1 (k + 1) = nd 1 k + (if isC (k + 1) then 0 else 1)) := fun k => by rw [nd_snoc, Nat.add_comm 1 k]
  have NL : Hid (∀ k, k < 16 → nd 1 k ≤ k) := fun k hk => nd_small ⟨k, hk⟩
  have HPw : Hid (∀ (i : Nat) W, i < 15 → Calls Try.prog 21 #[.int .i64 ((i : Int) + 1)] W fun e w' => e = .returned (.bool (isC (i + 1))) ∧ w' = W) := fun i W h => power_any i h W
  have HB : Hid (∀ (y i : Nat) W, y < 4294967296 → i < 32 → Calls Try.prog 22 #[.int .u32 y, .int .i64 i] W fun e w' => e = .returned (.bool (y.testBit i)) ∧ w' = W) := fun y i W h h' => bit_any y i h h' W
  have HPt : Hid (∀ (y : Wd) W, y.l.length ≤ 15 → pf 1 y.l < 2 ^ r → Bits W y → Calls Try.prog 23 #[.int .i64 r, y.v] W fun e w' => e = .returned (.int .i64 (pf 1 y.l : Nat)) ∧ w' = W) := fun y W h h' hb => pointer_any hr y h h' W hb
  have Z0 : Hid (∀ s, S s 0 = []) := fun s => by rw [hS]; rfl
  clear h5 hp0 hd hr hpr hR2 hS
  generalize hQ : 2 ^ r = Q at *
  have HQ : Hid (2 ^ r = Q) := hQ
  clear hQ
  generalize Q - 1 = n at *
  have hD15 : n - r ≤ 13 := by omega
  generalize n - r = D at *
  unfold maxLen at h2
  go_enter Try.func12, Try.ntmps12
  go_wp2
  go_loopg [5] p (fun gg s5 wr => ∃ s : Nat, s ≤ p ∧ p - s ≤ gg ∧ s5 = .int .u32 s ∧ Aside (Ext w wr))
  case atStart => exact ⟨0, Nat.zero_le _, by omega, rfl, Ext.refl _⟩
  case round =>
    obtain ⟨s, hs, hgg, rfl, E⟩ := hrel
    obtain ⟨wx, hwx⟩ : ∃ wx, wx = wr := ⟨_, rfl⟩
    rw [← hwx] at E ⊢
    clear hwx
    go_wp2
    go_loopg [6, 7, 8, 9] n (fun gk s6 s7 s8 s9 wq => ∃ (k : Nat) (sv : Value), k ≤ n ∧ n - k ≤ gk ∧ s9 = .int .i64 ((k : Int) + 1) ∧ s7 = .int .i64 (nd 1 k : Nat) ∧ s8 = .int .i64 (k - nd 1 k : Nat) ∧ sv = s6 ∧ Aside (OwnB wx wq sv (S s k)))
    case atStart => exact ⟨0, _, Nat.zero_le _, by omega, rfl, rfl, rfl, rfl, by show OwnB _ _ _ _; rw [Z0.out]; exact OwnB.nil (Ext.refl _)⟩
    case round =>
      obtain ⟨k, u6, hk, hgk, rfl, rfl, rfl, rfl, X⟩ := hrel
      by_cases hlt : k < n
      · have hltz : (k : Int) + 1 < (n : Int) + 1 := by omega
        have c1 := HPw.out k wr (by omega)
        have ns := NS.out k
        have nl := NL.out k (by omega)
        have nl' : Hid (nd 1 (k + 1) ≤ k + 1) := NL.out (k + 1) (by omega)
        have nxc := NXC.out s k hlt
        have nxd := NXD.out s k hlt
        have hfl : Hid ((S s k).length + 1 ≤ 140737488355328) := LE.out s k (by omega)
        clear NXC NXD LE SA HPX HPt Z0 HPw NS NL HQ
        cases hc : isC (k + 1)
        · rw [hc] at c1 ns
          have ns' : Hid (nd 1 (k + 1) = nd 1 k + 1) := ns
          have nx' : Hid (S s (k + 1) = S s k ++ [d.getD (nd 1 k) false]) := nxd hc
          have hlt2 := Hlt.out k hlt hc
          have e1 := (E.out.trans X.out.1).cell (HC.out _ hlt2)
          obtain rfl := h4 (by omega)
          generalize d.getD (nd 1 k) false = b1 at *
          clear nxc nxd hc ns Hlt HC HB
          generalize nd 1 k = q at *
          obtain ⟨m, hm⟩ : ∃ m, k - q = m := ⟨_, rfl⟩
          have hm' : Hid (k + 1 - (q + 1) = m) := by show _ = _; omega
          rw [hm]
          have hm15 : m ≤ 15 := by omega
          clear hm
          go_wp2_with (first | (go_at_call 21; refine c1.mono ?_; rintro e w2 ⟨rfl, rfl⟩; clear c1) | (at_builtin; refine wpList_appendBit rfl _ _ rfl wx _ u6 (by rfl) _ X.out b1 (by rfl) hfl.out ?_; intro v' w3 O3; have O3' : Hid (OwnB wx w3 v' (S s (k + 1))) := by (show OwnB _ _ _ _; rw [nx'.out]; exact O3)))
          go_roundg (n - (k + 1))
          case measure => omega
          case rel => exact ⟨k + 1, _, by omega, by omega, by go_num, by rw [ns'.out]; go_num, by rw [ns'.out, hm'.out], rfl, O3'.out⟩
        · rw [hc] at c1 ns
          have ns' : Hid (nd 1 (k + 1) = nd 1 k) := ns
          have nx' : Hid (S s (k + 1) = S s k ++ [s.testBit (k - nd 1 k)]) := nxc hc
          clear nxc nxd hc ns Hlt HC
          generalize nd 1 k = q at *
          obtain ⟨m, hm⟩ : ∃ m, k - q = m := ⟨_, rfl⟩
          have hm' : Hid (k + 1 - q = m + 1) := by show _ = _; omega
          have hm15 : m ≤ 15 := by omega
          have hb := HB.out s m
          rw [hm] at nx' ⊢
          clear hm HB
          generalize s.testBit m = tb at *
          go_wp2_with (first | (go_at_call 21; refine c1.mono ?_; rintro e w2 ⟨rfl, rfl⟩; clear c1) | (go_at_call 22; refine (hb _ (by omega) (by omega)).mono ?_; rintro e w2 ⟨rfl, rfl⟩; clear hb) | (at_builtin; refine wpList_appendBit rfl _ _ rfl wx _ u6 (by rfl) _ X.out tb (by rfl) hfl.out ?_; intro v' w3 O3; have O3' : Hid (OwnB wx w3 v' (S s (k + 1))) := by (show OwnB _ _ _ _; rw [nx'.out]; exact O3)))
          go_roundg (n - (k + 1))
          case measure => omega
          case rel => exact ⟨k + 1, _, by omega, by omega, by go_num, by rw [ns'.out], by rw [ns'.out, hm'.out]; go_num, rfl, O3'.out⟩
      · obtain rfl : k = n := by omega
        have hltz : ¬ (k : Int) + 1 < (k : Int) + 1 := by omega
        obtain ⟨sa, sl, sz, slt⟩ := SA.out s hs
        have hX := X.out
        rw [sa] at hX
        obtain ⟨y, rfl, hyl, hyb⟩ := hX.bits
        have c3 := HPt.out y wr (by rw [hyl, sl]; omega) (by rw [hyl]; exact slt) hyb
        rw [hyl] at c3
        have HO : Hid (OwnB wx wr y.v (mx r s d)) := hX
        simp only [Wd.v] at c3 HO ⊢
        rw [hyl, sl] at c3 HO ⊢
        clear NXC NXD LE SA HPt Z0 HPw NS NL HQ X Hlt HC HB hX hyb hyl sl sa
        by_cases h0 : s = p
        · subst h0
          rw [sz.2 rfl] at c3
          clear sz slt
          go_wp2_with fail
          refine c3.mono ?_
          rintro e w2 ⟨rfl, rfl⟩
          clear c3
          go_wp2
          go_ret
          exact ⟨_, rfl, by rw [HPX.out]; exact OwnB.base E.out HO.out⟩
        · have hne : ¬ pf 1 (mx r s d) = 0 := fun h => h0 (sz.1 h)
          have E2 : Aside (Ext w wr) := E.out.trans HO.out.1
          clear sz HPX HO E
          generalize pf 1 (mx r s d) = P at *
          have hz : ((P : Int) == 0) = false := beq_eq_false_iff_ne.2 (by omega)
          go_wp2_with fail
          refine c3.mono ?_
          rintro e w2 ⟨rfl, rfl⟩
          clear c3
          go_wp2
          go_roundg (p - (s + 1))
          case measure => omega
          case rel => exact ⟨s + 1, by omega, by omega, by go_num, E2.out⟩

end Go.Proofs.Ytdplmaofapnhhaa
