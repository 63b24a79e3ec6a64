/-
  quipukeep.turned: bits, some of which are turned.
-/
import Derived.Test.YtnkhlohoaoiefaaDoorOw
namespace Go.Proofs.YtnkhlohoaoiefaaDoor
open Go.RowKit
set_option linter.unusedVariables false

/-- The bit at i turned. -/
def tn (l : List Bool) (i : Nat) : List Bool := l.set i (!(l.getD i false))
theorem tn_len (l : List Bool) (i : Nat) : (tn l i).length = l.length := by unfold tn; simp
/-- The first k of these places turned, one behind the other. -/
def tnP (P : Nat → Nat) (l : List Bool) : Nat → List Bool
  | 0 => l
  | k + 1 => tn (tnP P l k) (P k)
theorem tnP_len (P : Nat → Nat) (l : List Bool) : ∀ k, (tnP P l k).length = l.length
  | 0 => rfl
  | k + 1 => by
    show (tn _ _).length = _
    rw [tn_len, tnP_len P l k]

set_option maxHeartbeats 2000000 in
theorem turned_any (x : Wd) (h0 : 0 < x.l.length) (hl : x.l.length ≤ 1000) (P : Nat → Nat) (m B : Nat) (hm : m ≤ 10) (hP : ∀ k, k < m → P k < x.l.length) (w : World) (hx : Bits w x) (hc : ∀ k, k < m → w.cell? ⟨B, k, none⟩ = some (.int .i64 (P k : Nat))) :
    Calls Tryd.prog 10 #[x.v, .slice (some ⟨B, 0, none⟩) m m] w fun e w' => ∃ v, e = .returned v ∧ OwnB w w' v (tnP P x.l m) := by
  obtain ⟨pa, hv⟩ := hx.some h0
  have HX : Hid (Bits (w.alloc (.cells #[] 4)) x) := hx.ext ((Ext.refl w).alloc _)
  have HO : Hid (OwnB w (w.alloc (.cells #[] 4)) (.slice (some ⟨w.heap.size, 0, none⟩) 0 0) []) := OwnB.empty w
  have HB : Hid (([] : List Bool).length + x.l.length ≤ 140737488355328) := by show _ ≤ _; rw [List.length_nil]; omega
  have HC : Hid (∀ k, k < m → w.cell? ⟨B, k, none⟩ = some (.int .i64 (P k : Nat))) := hc
  obtain ⟨l, hll⟩ : ∃ l, x.l = l := ⟨_, rfl⟩
  obtain ⟨n, hn⟩ : ∃ n, x.l.length = n := ⟨_, rfl⟩
  obtain ⟨c, hcc⟩ : ∃ c, x.c = c := ⟨_, rfl⟩
  have HM : Hid (x.l = l) := hll
  have HN : Hid (l.length = n) := by show _ = _; rw [← hll, hn]
  have HT : Hid (∀ k, (tnP P l k).length = n) := fun k => by rw [tnP_len]; exact HN.out
  have HS : Hid (∀ k, tnP P l (k + 1) = (tnP P l k).set (P k) (!((tnP P l k).getD (P k) false))) := fun k => rfl
  have HZ : Hid (tnP P l 0 = l) := rfl
  have hm1 : n ≤ c := by rw [← hn, ← hcc]; exact hx.1
  have hm2 : c ≤ maxLen := by rw [← hcc]; exact hx.2.1
  rw [hn, hcc] at hv
  rw [hv]
  have HV : Hid (Value.slice (some pa) n c = x.v) := hv.symm
  rw [hll]
  rw [hn] at hl h0 hP
  have HPl : Hid (∀ k, k < m → P k < n) := hP
  unfold maxLen at hm2
  clear hv hx hll hn hcc hc hP
  generalize tnP P l = S at *
  go_enter Tryd.func10, Tryd.ntmps10
  go_wp2_with (at_builtin; refine wpList_appendBits rfl _ _ rfl w _ _ (by rfl) [] HO.out x (by exact HV.out) HX.out HB.out ?_; intro v' w2 B2; rw [List.nil_append, HM.out] at B2; obtain ⟨g, cap, rest, rfl, hg, hcap, hmax, hR1, hrest⟩ := B2.row (by rw [HN.out]; exact h0); rw [HN.out] at hcap hrest ⊢; have HR1 : Hid (RB w2 g (S 0) rest) := (by show RB _ _ _ _; rw [HZ.out]; exact hR1); have HE1 : Hid (Ext w w2) := B2.1; have HMx : Hid (cap ≤ maxLen) := hmax; unfold maxLen at hmax; clear B2 hR1)
  go_loopg [13] m (fun gg s13 wr => ∃ k : Nat, k ≤ m ∧ m - k ≤ gg ∧ s13 = .int .i64 k ∧ Aside (Ext w wr) ∧ Aside (RB wr g (S k) rest))
  case atStart => exact ⟨0, Nat.zero_le _, by omega, rfl, HE1.out, HR1.out⟩
  case round =>
    obtain ⟨k, hk, hgg, rfl, E, X⟩ := hrel
    by_cases hlt : k < m
    · have hltz : (k : Int) < (m : Int) := by omega
      have e1 := E.out.cell (HC.out k hlt)
      have hp := HPl.out k hlt
      have e2 := X.out.cell (P k) (by rw [HT.out]; exact hp)
      have f2 := Row.fr X.out (P k)
      have nX : Hid (RB (wr.setCell ⟨g, P k, none⟩ (.bool (!((S k).getD (P k) false)))) g (S (k + 1)) rest) := by
        show RB _ _ _ _
        rw [HS.out]
        exact X.out.set (P k) (by rw [HT.out]; exact hp) _
      have nE : Hid (Ext w (wr.setCell ⟨g, P k, none⟩ (.bool (!((S k).getD (P k) false))))) := E.out.setCell hg _
      generalize (S k).getD (P k) false = b0 at *
      generalize P k = q at *
      clear HC HPl HS HT HZ X E HR1 HE1
      go_wp2
      go_roundg (m - (k + 1))
      case measure => omega
      case rel => exact ⟨k + 1, by omega, by omega, by go_num, nE.out, nX.out⟩
    · obtain rfl : k = m := by omega
      have hltz : ¬ (k : Int) < (k : Int) := by omega
      have F : Hid (OwnB w wr (.slice (some ⟨g, 0, none⟩) n cap) (S k)) := by
        have := OwnB.of_row (l := S k) (rest := rest) (cap := cap) E.out hg X.out (by rw [HT.out]; exact hrest) HMx.out
        rw [HT.out] at this
        exact this
      clear HC HPl HS HT HZ X E HR1 HE1
      go_wp2
      go_ret
      exact ⟨_, rfl, F.out⟩

end Go.Proofs.YtnkhlohoaoiefaaDoor
