/-
  In plain mathematics: over the parts of a product no other product of no greater degree has an odd number.
-/
import Derived.Test.YtakojkekelhobaaMu
namespace Go.Proofs.Ytakojkekelhobaa

def kyB (m p q o : Nat) : Bool := !(decide (p < 2 ^ m) && decide (q < 2 ^ m) && decide (o < 2 ^ m) && decide (pop q ≤ pop p) && (o &&& p == 0)) || (pt (2 ^ m) p (wi q) o == (q == p))
theorem key_all : ∀ m : Fin 5, ∀ p : Fin 16, ∀ q : Fin 16, ∀ o : Fin 16, kyB m.val p.val q.val o.val = true := by decide +kernel
theorem key_at {m p q o : Nat} (hm : m ≤ 4) (hp : p < 2 ^ m) (hq : q < 2 ^ m) (ho : o < 2 ^ m) (hd : pop q ≤ pop p) (h0 : o &&& p = 0) : pt (2 ^ m) p (wi q) o = (q == p) := by
  have hM : 2 ^ m ≤ 2 ^ 4 := Nat.pow_le_pow_right (by omega) hm
  have h := key_all ⟨m, by omega⟩ ⟨p, by omega⟩ ⟨q, by omega⟩ ⟨o, by omega⟩
  simpa [kyB, hp, hq, ho, hd, h0] using h

end Go.Proofs.Ytakojkekelhobaa
