/-
  In plain mathematics: the bits that come round: what is taken to be added, as the program finds it and as the law does; each word once.
-/
import Derived.Test.YtioaohcnlgbnnaaBase
namespace Go.Proofs.Ytioaohcnlgbnnaa

/-- One bit more: the last bits as a number, the odd numbers that came, the bits so far. -/
def rst (n : Nat) (s : Nat × List Nat × List Bool) : Nat × List Nat × List Bool :=
  if s.2.1.contains (2 * s.1 % 2 ^ n + 1) then (2 * s.1 % 2 ^ n, s.2.1, s.2.2 ++ [false])
  else (2 * s.1 % 2 ^ n + 1, (2 * s.1 % 2 ^ n + 1) :: s.2.1, s.2.2 ++ [true])
def rs (n : Nat) : Nat → Nat × List Nat × List Bool
  | 0 => (0, [], List.replicate n false)
  | k + 1 => rst n (rs n k)

/-- Do the last n bits stand anywhere ahead? -/
def hit (n : Nat) (m : List Bool) : Bool := (List.range (m.length - n)).any (fun i => (m.drop i).take n == m.drop (m.length - n))
def fr (n : Nat) : Nat → List Bool
  | 0 => List.replicate n false
  | k + 1 => fr n k ++ [!hit n (fr n k ++ [true])]

/-- The bits that come round. -/
def rl (n : Nat) : List Bool := (rs n (2 ^ n - n)).2.2

/-- The number of the n bits from i on, going round in M. -/
def wn (B : Nat → Bool) (M i : Nat) : Nat → Nat
  | 0 => 0
  | k + 1 => 2 * wn B M i k + (if B ((i + k) % M) then 1 else 0)

theorem rl_1 : rl 1 = fr 1 1 := by decide +kernel
theorem rl_2 : rl 2 = fr 2 2 := by decide +kernel
theorem rl_3 : rl 3 = fr 3 5 := by decide +kernel
theorem rl_4 : rl 4 = fr 4 12 := by decide +kernel
theorem rl_5 : rl 5 = fr 5 27 := by decide +kernel
theorem rl_6 : rl 6 = fr 6 58 := by decide +kernel
theorem rl_fr {n : Nat} (h0 : 1 ≤ n) (h1 : n ≤ 6) : rl n = fr n (2 ^ n - n) := by
  rcases (show n = 1 ∨ n = 2 ∨ n = 3 ∨ n = 4 ∨ n = 5 ∨ n = 6 by omega) with rfl | rfl | rfl | rfl | rfl | rfl
  · exact rl_1
  · exact rl_2
  · exact rl_3
  · exact rl_4
  · exact rl_5
  · exact rl_6

/-- The numbers of all words, going round. -/
def wl (n : Nat) (l : List Bool) : List Nat := (List.range (2 ^ n)).map (fun i => wn (fun j => l.getD j false) (2 ^ n) i n)
theorem once_1 : (wl 1 (rl 1)).Nodup := by decide +kernel
theorem once_2 : (wl 2 (rl 2)).Nodup := by decide +kernel
theorem once_3 : (wl 3 (rl 3)).Nodup := by decide +kernel
theorem once_4 : (wl 4 (rl 4)).Nodup := by decide +kernel
theorem once_5 : (wl 5 (rl 5)).Nodup := by decide +kernel
theorem once_6 : (wl 6 (rl 6)).Nodup := by decide +kernel

theorem rs_len (n : Nat) : ∀ k, (rs n k).2.2.length = n + k
  | 0 => List.length_replicate
  | k + 1 => by
    have h := rs_len n k
    show (rst n (rs n k)).2.2.length = _
    unfold rst
    split <;> (simp only [List.length_append, List.length_singleton]; omega)
theorem rs_yes {n k : Nat} (h : (rs n k).2.1.contains (2 * (rs n k).1 % 2 ^ n + 1) = true) : rs n (k + 1) = (2 * (rs n k).1 % 2 ^ n, (rs n k).2.1, (rs n k).2.2 ++ [false]) := if_pos h
theorem rs_no {n k : Nat} (h : (rs n k).2.1.contains (2 * (rs n k).1 % 2 ^ n + 1) = false) : rs n (k + 1) = (2 * (rs n k).1 % 2 ^ n + 1, (2 * (rs n k).1 % 2 ^ n + 1) :: (rs n k).2.1, (rs n k).2.2 ++ [true]) := if_neg (by rw [h]; decide)
theorem rs_low {n : Nat} : ∀ k, (rs n k).1 ≤ 2 ^ n
  | 0 => Nat.zero_le _
  | k + 1 => by
    have h := Nat.mod_lt (2 * (rs n k).1) (Nat.two_pow_pos n)
    show (rst n (rs n k)).1 ≤ _
    unfold rst
    split <;> simp only <;> omega
theorem fr_len (n : Nat) : ∀ k, (fr n k).length = n + k
  | 0 => List.length_replicate
  | k + 1 => by
    have h := fr_len n k
    show (fr n k ++ [_]).length = _
    simp only [List.length_append, List.length_singleton]; omega

end Go.Proofs.Ytioaohcnlgbnnaa
