/-
  The ones of a word below 4096 by the table of bytes.
-/
import Derived.Test.YtabjliijojidmaaCho
import Derived.Lib.BitFns
namespace Go.Proofs.Ytabjliijojidmaa

theorem pop_two : ∀ h : Fin 16, ∀ l : Fin 256, Lib.pop8 (h.val : Int) + Lib.pop8 (l.val : Int) = (pop (256 * h.val + l.val) : Int) := by decide +kernel
theorem pop_bytes {n : Nat} (hn : n < 4096) : Lib.pop8 ((n / 256 : Nat) : Int) + Lib.pop8 ((n % 256 : Nat) : Int) = (pop n : Int) := by
  have h := pop_two ⟨n / 256, by omega⟩ ⟨n % 256, by omega⟩
  rw [show 256 * (n / 256) + n % 256 = n by omega] at h
  exact h

end Go.Proofs.Ytabjliijojidmaa
