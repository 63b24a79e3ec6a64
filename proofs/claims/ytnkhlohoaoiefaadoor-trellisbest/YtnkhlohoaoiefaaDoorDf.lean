/-
  quipuref.Differ.
-/
import Derived.Test.YtnkhlohoaoiefaaDoorCt
import Derived.Test.YtnkhlohoaoiefaaDoorOw
namespace Go.Proofs.YtnkhlohoaoiefaaDoor
open Go.RowKit
set_option linter.unusedVariables false

theorem differ_any (x y : Wd) (hl : y.l.length = x.l.length) (h16 : x.l.length ≤ 100) (w : World) (hx : Bits w x) (hy : Bits w y) :
    Calls Tryd.prog 11 #[x.v, y.v] w fun e w' => e = .returned (.int .i64 (df x.l y.l : Nat)) ∧ Qt w w' := by
  obtain ⟨a, c, l⟩ := x
  obtain ⟨a2, c2, l2⟩ := y
  obtain ⟨h1, h2, _, b, o, h4, h5⟩ := hx
  obtain ⟨q1, q2, _, b2, o2, q4, q5⟩ := hy
  simp only at h1 h2 h4 h5 q1 q2 q4 q5 hl h16
  simp only [Wd.v]
  rw [hl] at q1 q4 q5 ⊢
  obtain ⟨X, hX⟩ : ∃ X : Nat → Bool, ∀ i, X i = l.getD i false := ⟨_, fun _ => rfl⟩
  obtain ⟨Y, hY⟩ : ∃ Y : Nat → Bool, ∀ i, Y i = l2.getD i false := ⟨_, fun _ => rfl⟩
  obtain ⟨S, hS⟩ : ∃ S : Nat → Nat, ∀ k, S k = ct (fun i => X i != Y i) k := ⟨_, fun _ => rfl⟩
  have ES : df l l2 = S l.length := by
    rw [hS]
    exact ct_congr _ (fun i _ => by rw [hX, hY])
  rw [ES]
  have HX : Hid (∀ i, i < l.length → w.cell? ⟨b, o + i, none⟩ = some (.bool (X i))) := fun i hi => by rw [hX]; exact h5 i hi
  have HY : Hid (∀ i, i < l.length → w.cell? ⟨b2, o2 + i, none⟩ = some (.bool (Y i))) := fun i hi => by rw [hY]; exact q5 i hi
  have S0 : Hid (S 0 = 0) := by show _ = _; rw [hS]; rfl
  have SN : Hid (∀ k, S (k + 1) = S k + (if X k != Y k then 1 else 0)) := fun k => by rw [hS, hS]; rfl
  have SL : Hid (∀ k, S k ≤ k) := fun k => by rw [hS]; exact ct_le _ k
  clear h5 q5 ES hX hY hS hl
  unfold maxLen at h2 q2
  generalize l.length = n at *
  go_enter Tryd.func11, Tryd.ntmps11
  go_wp2
  go_loopg [5, 6] n (fun gg s5 s6 wr => ∃ k : Nat, k ≤ n ∧ n - k ≤ gg ∧ s6 = .int .i64 k ∧ s5 = .int .i64 (S k : Nat) ∧ Aside (Qt w wr))
  case atStart => exact ⟨0, Nat.zero_le _, by omega, rfl, by rw [S0.out]; rfl, Qt.refl w⟩
  case round =>
    obtain ⟨k, hk, hgg, rfl, rfl, Q⟩ := hrel
    clear S0
    by_cases hlt : k < n
    · have hltz : (k : Int) < (n : Int) := by omega
      obtain rfl := h4 (by omega)
      obtain rfl := q4 (by omega)
      have e1 := Q.out.cell (HX.out k hlt)
      have e2 := Q.out.cell (HY.out k hlt)
      have sn := SN.out k
      have sl := SL.out k
      have Q' : Hid (Qt w wr) := Q.out
      clear HX HY SN SL Q h4 q4
      generalize X k = u1 at *
      generalize Y k = u2 at *
      generalize S k = s at *
      have SN' : Hid (S (k + 1) = s + (if (u1 != u2) = true then 1 else 0)) := sn
      clear sn
      cases u1 <;> cases u2
      all_goals
        go_wp2
        go_quiet (fail)
        go_wp2
        go_roundg (n - (k + 1))
        case measure => omega
        case rel => exact ⟨k + 1, by omega, by omega, by go_num, by rw [SN'.out]; first | rfl | go_num, Q'.out.drewN _⟩
    · obtain rfl : k = n := by omega
      have hltz : ¬ (k : Int) < (k : Int) := by omega
      have Q' : Hid (Qt w wr) := Q.out
      clear HX HY SN SL Q
      go_wp2
      go_ret
      exact ⟨rfl, Q'.out⟩

end Go.Proofs.YtnkhlohoaoiefaaDoor
