/-
  quipukeep.booked; book.Least of whatever words.
-/
import Derived.Test.YtfcleenbhadfhacLe
import Derived.Test.YtfcleenbhadfhacBr
namespace Go.Proofs.Ytfcleenbhadfhac
open Go.RowKit

theorem booked_any (n : Int) (x : Um) (hb : ∀ y ∈ x.z, y < 4294967296) (w : World) (hx : Us w x) : Calls Try.prog 12 #[.int .i64 n, x.v] w fun e w' => e = .returned (.bool (bke n x.z == 0)) ∧ w' = w := by
  have c1 := refBook_any n x hb w hx
  generalize bke n x.z = R at *
  obtain ⟨a, c, g⟩ := x
  simp only [Um.v] at *
  generalize g.length = l at *
  clear hx hb
  go_enter Try.func12, Try.ntmps12
  go_wp2_with fail
  refine c1.mono ?_
  rintro e w' ⟨rfl, rfl⟩
  clear c1
  go_wp2
  go_ret
  exact ⟨rfl, rfl⟩

theorem wrap_pow {E : Nat} (h : E ≤ 12) : wrap64 ((2 : Int) ^ E) = ((2 ^ E : Nat) : Int) := by
  have h : 2 ^ E ≤ 2 ^ 12 := Nat.pow_le_pow_right (by omega) h
  have e : (2 : Int) ^ E = ((2 ^ E : Nat) : Int) := by rw [Int.natCast_pow]; rfl
  rw [e]
  clear e
  generalize 2 ^ E = M at *
  exact IntWalk.wrap64_in _ (by omega)

/-- Where the book is not as it must be, or has not two words, Least tells an error. -/
theorem least_err (n : Int) (x : Um) (hb : ∀ y ∈ x.z, y < 4294967296) (w : World) (hx : Us w x) (h : bke n x.z ≠ 0 ∨ x.z.length < 2) : Calls Try.prog 9 #[.int .i64 n, x.v] w fun e w' => (∃ E : Int, (E != 0) = true ∧ e = .returned (.tuple #[.int .i64 0, .int .i64 E])) ∧ Ext w w' := by
  by_cases h0 : bke n x.z = 0
  · exact (least_none n x hb w hx h0 (h.resolve_left (fun h => h h0))).mono fun e w' ⟨h1, h2⟩ => ⟨⟨5, rfl, h1⟩, h2⟩
  · exact (least_bad n x hb w hx h0).mono fun e w' ⟨h1, h2⟩ => ⟨⟨_, by rw [bne_iff_ne]; exact h0, h1⟩, h2⟩

end Go.Proofs.Ytfcleenbhadfhac
