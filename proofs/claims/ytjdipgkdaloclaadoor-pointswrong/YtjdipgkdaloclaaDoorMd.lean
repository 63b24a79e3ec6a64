/-
  points.madeOf: what numbers sum up to at so many points.
-/
import Derived.Test.YtjdipgkdaloclaaDoorCc
import Derived.Test.YtjdipgkdaloclaaDoorRw
import Derived.Test.YtjdipgkdaloclaaDoorSv
namespace Go.Proofs.YtjdipgkdaloclaaDoor
open Go.RowKit

/-- What numbers sum up to at place i. -/
abbrev ep (d : List Nat) (i : Nat) : Nat := ev (i + 1) d

theorem made_any (d : List Nat) (hd : ∀ c ∈ d, c < 16) (hm : d.length ≤ 1000) (n : Nat) (hn : n ≤ 9) (y : Nm) (hy : y.z = zl d) (w : World) (hw : Nums w y) :
    Calls Tryd.prog 17 #[y.v, .int .i64 n] w fun e w' => e = .returned (.slice (some ⟨w.heap.size, 0, none⟩) n n) ∧ Ext w w' ∧ Row w' w.heap.size 3 (nf (ep d) n) := by
  have SV : Hid (∀ (x : Nat) W, x < 9 → Ext w W → Calls Tryd.prog 26 #[y.v, .int .i64 ((x : Int) + 1)] W fun e w' => e = .returned (.int .i64 (ep d x : Nat)) ∧ Ext W w') := fun x W hx E =>
    SumAt_any d hd (by omega) (x + 1) (by omega) y hy W (hw.ext E)
  have hmk : ∀ W : World, (Instr.makeSlice 22 (.int .i64 (n : Int)) (.int .i64 (n : Int))).run Tryd.prog W = .ok (.slice (some ⟨W.heap.size, 0, none⟩) n n) (W.alloc (.cells (madeCells #[.int .i64 0] n) 3)) := fun W =>
    run_make_row' 22 3 (.int .i64 0) 8 Tryd.underlying22 info3 rfl .i64 .i64 n (by omega) (by omega) W
  have R0 : Hid (Row (w.alloc (.cells (madeCells #[.int .i64 0] n) 3)) w.heap.size 3 (nf (fun i => if i < 0 then ep d i else 0) n)) := Row.madeN w n _ (fun i _ => if_neg (by omega))
  have E0 : Hid (Ext w (w.alloc (.cells (madeCells #[.int .i64 0] n) 3))) := (Ext.refl w).alloc _
  clear hw hy
  generalize y.v = Y at *
  generalize ep d = V at *
  go_enter Tryd.func17, Tryd.ntmps17
  go_wp2
  clear hmk
  generalize w.alloc (.cells (madeCells #[.int .i64 0] n) 3) = w1 at *
  go_loopg [6, 11] n (fun gg _ s wr => ∃ k : Nat, k ≤ n ∧ n - k ≤ gg ∧ s = .int .i64 k ∧ Aside (Ext w wr) ∧ Aside (Row wr w.heap.size 3 (nf (fun i => if i < k then V i else 0) n)))
  case atStart => exact ⟨0, by omega, by omega, rfl, E0.out, R0.out⟩
  case round =>
    obtain ⟨k, hk, hgg, rfl, E, R⟩ := hrel
    by_cases hlt : k < n
    · have hltz : (k : Int) < (n : Int) := by omega
      have c1 := pointOf_any k (by omega) wr
      have c2 := SV.out k wr (by omega) E.out
      have hfr : ∀ W, Ext wr W → W.frozen? ⟨w.heap.size, k, none⟩ = false := fun W e => (R.out.ext e).fr k
      go_wp2_with fail
      refine c1.mono ?_
      rintro e w' ⟨rfl, rfl⟩
      clear c1
      go_wp2_with fail
      refine c2.mono ?_
      rintro e w' ⟨rfl, E2⟩
      clear c2
      have hf := hfr _ E2
      have R2 : Hid (Row (w'.setCell ⟨w.heap.size, k, none⟩ (.int .i64 (V k : Nat))) w.heap.size 3 (nf (fun i => if i < k + 1 then V i else 0) n)) := (R.out.ext E2).setN _ _ (fun i _ => upto_next)
      have E3 : Hid (Ext w (w'.setCell ⟨w.heap.size, k, none⟩ (.int .i64 (V k : Nat)))) := (E.out.trans E2).setCell (p := ⟨w.heap.size, k, none⟩) (Nat.le_refl _) _
      have hc : ∃ u, w'.cell? ⟨w.heap.size, k, none⟩ = some u := ⟨_, (R.out.ext E2).cellN k hlt⟩
      obtain ⟨u, hc⟩ := hc
      clear E2 hfr
      go_wp2
      go_roundg (n - (k + 1))
      case measure => omega
      case rel => exact ⟨k + 1, by omega, by omega, by go_num, E3.out, R2.out⟩
    · obtain rfl : k = n := by omega
      have Rn : Hid (Row wr w.heap.size 3 (nf V k)) := by
        have := R.out
        have e : nf (fun i => if i < k then V i else 0) k = nf V k := nf_congr (fun i hi => if_pos hi)
        rw [e] at this
        exact this
      go_wp2
      go_ret
      exact ⟨rfl, E.out, Rn.out⟩

end Go.Proofs.YtjdipgkdaloclaaDoor
