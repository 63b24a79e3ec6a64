/-
  What points.Fix hands back lies in two cells.
-/
import Derived.Test.YtjdipgkdaloclaaDoorFx0
namespace Go.Proofs.YtjdipgkdaloclaaDoor
open Go.RowKit

theorem res5 (tmps : Array Value) (W : World) (p q : Nat) (v : Value) (x : Int) (hp : tmps.getD 4 undef = .pointer (some ⟨p, 0, none⟩)) (hq : tmps.getD 5 undef = .pointer (some ⟨q, 0, none⟩))
    (c1 : W.cell? ⟨p, 0, none⟩ = some v) (c2 : W.cell? ⟨q, 0, none⟩ = some (.int .i64 x)) : (results Tryd.f5 tmps).run Tryd.prog W = .ok (.tuple #[v, .int .i64 x]) W := by
  have h : Tryd.f5.results = #[.cell 4 22, .cell 5 23] := by kernel_rfl
  have hp' : tmps[4]?.getD undef = .pointer (some ⟨p, 0, none⟩) := by simpa using hp
  have hq' : tmps[5]?.getD undef = .pointer (some ⟨q, 0, none⟩) := by simpa using hq
  simp only [results, h]
  simp [go_sem, hp', hq', c1, c2]

end Go.Proofs.YtjdipgkdaloclaaDoor
