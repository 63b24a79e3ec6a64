/-
  slices.SortStableFunc over fewer than twenty trees.
-/
import Derived.Test.YtakggfogoobdnaaIns
namespace Go.Proofs.Ytakggfogoobdnaa
open Go.RowKit

set_option maxHeartbeats 2000000 in
theorem stable_any (w0 w : World) (B c o : Nat) (l : List Tr) (pre post : List Value) (hB : w0.heap.size ≤ B) (hE : Ext w0 w) (ho : pre.length = o) (hr : Row w B 66 (pre ++ fl l ++ post)) (hlen : l.length < 20) :
    Calls Try.prog 50 #[.slice (some ⟨B, o, none⟩) l.length c, .int .i64 l.length, .func (.func 42) #[] #[]] w
      fun e w' => e = .returned (.tuple #[]) ∧ ∃ l', Row w' B 66 (pre ++ fl l' ++ post) ∧ l'.Perm l ∧ l'.Pairwise (fun a b => a.x ≤ b.x) ∧ Ext w0 w' ∧ KB B w w' := by
  have H := insertion_any w0 w B c o l pre post hB hE ho hr hlen
  clear hE hr ho
  have hz : ¬ (20 : Int) ≤ (l.length : Int) := by omega
  have hz2 : ¬ (20 : Int) < (l.length : Int) := by omega
  clear hlen
  generalize l.length = n at *
  go_enter Try.func50, Try.ntmps50
  go_wp2
  go_loopg [7, 8] 1 (fun _ s7 s8 wr => w = wr ∧ s7 = .int .i64 0 ∧ s8 = .int .i64 20)
  case atStart => exact ⟨rfl, rfl, rfl⟩
  case round =>
    obtain ⟨hw, rfl, rfl⟩ := hrel
    subst hw
    go_wp2_with fail
    refine H.mono ?_
    rintro e w1 ⟨rfl, hP⟩
    have HP : Hid (∃ l', Row w1 B 66 (pre ++ fl l' ++ post) ∧ l'.Perm l ∧ l'.Pairwise (fun a b => a.x ≤ b.x) ∧ Ext w0 w1 ∧ KB B w w1) := hP
    clear hP
    go_wp2
    go_loopg [6, 7, 8, 9] 1 (fun _ s6 _ _ _ wr => wr = w1 ∧ s6 = .int .i64 20)
    case atStart => exact ⟨rfl, rfl⟩
    case round =>
      obtain ⟨rfl, rfl⟩ := hrel
      go_wp2
      go_end0
      exact ⟨rfl, HP.out⟩

set_option maxHeartbeats 2000000 in
theorem sortStable_any (w0 w : World) (B c o : Nat) (l : List Tr) (pre post : List Value) (hB : w0.heap.size ≤ B) (hE : Ext w0 w) (ho : pre.length = o) (hr : Row w B 66 (pre ++ fl l ++ post)) (hlen : l.length < 20) :
    Calls Try.prog 41 #[.slice (some ⟨B, o, none⟩) l.length c, .func (.func 42) #[] #[]] w
      fun e w' => e = .returned (.tuple #[]) ∧ ∃ l', Row w' B 66 (pre ++ fl l' ++ post) ∧ l'.Perm l ∧ l'.Pairwise (fun a b => a.x ≤ b.x) ∧ Ext w0 w' ∧ KB B w w' := by
  have H := stable_any w0 w B c o l pre post hB hE ho hr hlen
  clear hE hr ho hlen
  generalize l.length = n at *
  go_enter Try.func41, Try.ntmps41
  go_wp2_with fail
  refine H.mono ?_
  rintro e w1 ⟨rfl, hP⟩
  have HP : Hid (∃ l', Row w1 B 66 (pre ++ fl l' ++ post) ∧ l'.Perm l ∧ l'.Pairwise (fun a b => a.x ≤ b.x) ∧ Ext w0 w1 ∧ KB B w w1) := hP
  clear hP
  go_wp2
  go_end0
  exact ⟨rfl, HP.out⟩

end Go.Proofs.Ytakggfogoobdnaa
