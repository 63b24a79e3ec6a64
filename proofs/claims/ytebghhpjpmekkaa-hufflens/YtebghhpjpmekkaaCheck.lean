/-
  What prefix.Check and quipuref.CodeCheck answer: ErrLarge just of a code of more than eight words, or with a word of more than eight bits.
-/
import Derived.Test.YtebghhpjpmekkaaFun
namespace Go.Proofs.Ytebghhpjpmekkaa
open Go.RowKit

def large (g : List Wd) : Bool := decide (8 < g.length) || g.any (fun x => decide (8 < x.l.length))
def erl (g : List Wd) : Int := if large g then 1 else 0

theorem erl_long {g : List Wd} (h : 8 < g.length) : erl g = 1 := by simp [erl, large, h]
theorem erl_word {g : List Wd} {x : Wd} (hx : x ∈ g) (h : 8 < x.l.length) : erl g = 1 := by
  have : g.any (fun x => decide (8 < x.l.length)) = true := List.any_eq_true.2 ⟨x, hx, by simpa using h⟩
  simp [erl, large, this]
theorem erl_ok {g : List Wd} (h : g.length ≤ 8) (h' : ∀ x ∈ g, x.l.length ≤ 8) : erl g = 0 := by
  have h1 : g.any (fun x => decide (8 < x.l.length)) = false := List.any_eq_false.2 (fun x hx => by have := h' x hx; simp; omega)
  have h2 : decide (8 < g.length) = false := by simp; omega
  simp [erl, large, h1, h2]
theorem erl_any {g : List Wd} (h : g.length ≤ 8) : erl g = if g.any (fun x => decide (8 < x.l.length)) then 1 else 0 := by
  have h2 : decide (8 < g.length) = false := by simp; omega
  simp [erl, large, h2]


theorem codeCheck_any (a : Option Addr) (c : Nat) (g : List Wd) (w : World) (hg : Wds w a c g) :
    Calls Try.prog 32 #[.slice a g.length c] w fun e w' => e = .returned (.int .i64 (erl g)) ∧ w' = w := by
  obtain ⟨h1, h2, _, b, o, h4, h5⟩ := hg
  unfold maxLen at h2
  obtain ⟨n, hn⟩ : ∃ n, g.length = n := ⟨_, rfl⟩
  have HN : Hid (g.length = n) := hn
  have H5 : Hid (∀ i (h : i < g.length), w.cell? ⟨b, o + i, none⟩ = some (g[i].v)) := h5
  rw [hn] at h1 h4 ⊢
  clear hn h5
  by_cases h8 : 8 < n
  · have hx := erl_long (g := g) (by rw [HN.out]; exact h8)
    rw [hx]
    clear hx
    have h8' : (8 : Int) < (n : Int) := by omega
    go_enter Try.func32, Try.ntmps32
    go_wp2
    go_ret
    exact ⟨rfl, rfl⟩
  have h8' : ¬ (8 : Int) < (n : Int) := by omega
  go_enter Try.func32, Try.ntmps32
  go_wp2
  go_loopg [4, 10] n (fun gg _ s wr => wr = w ∧ ∃ k : Nat, k ≤ n ∧ n - k ≤ gg ∧ s = .int .i64 k ∧ Aside (∀ j (hj : j < g.length), j < k → g[j].l.length ≤ 8))
  case atStart => exact ⟨rfl, 0, Nat.zero_le _, by omega, rfl, fun j hj h => absurd h (Nat.not_lt_zero _)⟩
  case round =>
    obtain ⟨rfl, k, hk, hgg, rfl, A⟩ := hrel
    by_cases hlt : k < n
    · have hltz : (k : Int) < (n : Int) := by omega
      obtain rfl := h4 (by omega)
      have hkl : k < g.length := by rw [HN.out]; exact hlt
      have e1 := H5.out k hkl
      have bad : Aside (8 < g[k].l.length → erl g = 1) := fun h => erl_word (List.getElem_mem hkl) h
      have good : Aside (g[k].l.length ≤ 8 → ∀ j (hj : j < g.length), j < k + 1 → g[j].l.length ≤ 8) := fun h j hj hj' => by
        rcases Nat.lt_succ_iff_lt_or_eq.1 hj' with h' | rfl
        · exact A.out j hj h'
        · exact h
      generalize hy : g[k] = y at e1 bad good
      clear h4 hy
      obtain ⟨ya, yc, yl⟩ := y
      simp only [Wd.v] at e1 bad good
      generalize yl.length = m at e1 bad good
      by_cases hm : 8 < m
      · have hm' : (8 : Int) < (m : Int) := by omega
        go_wp2
        go_ret
        exact ⟨ret_int (bad.out hm).symm, rfl⟩
      · have hm' : ¬ (8 : Int) < (m : Int) := by omega
        go_wp2
        go_roundg (n - (k + 1))
        case measure => omega
        case rel => exact ⟨rfl, k + 1, by omega, by omega, by go_num, good.out (by omega)⟩
    · have hx : Aside (erl g = 0) := erl_ok (by have := HN.out; omega) (fun x hx => by
        obtain ⟨j, hj, rfl⟩ := List.mem_iff_getElem.1 hx
        exact A.out j hj (by have := HN.out; omega))
      go_wp2
      go_ret
      exact ⟨ret_int hx.out.symm, rfl⟩

end Go.Proofs.Ytebghhpjpmekkaa
