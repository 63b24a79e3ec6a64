/-
  What unique.Unique answers; whether a code has a word without a bit.
-/
import Derived.Test.YtlhkifbjbibfoaaTwice
import Derived.Test.YtlhkifbjbibfoaaRefU
namespace Go.Proofs.Ytlhkifbjbibfoaa
open Go.RowKit

/-- The code may be, and no two texts are alike. -/
noncomputable def ub (g : List Wd) : Bool := (erl g == 0) && uq g

theorem erl_two (g : List Wd) : erl g = 1 ∨ erl g = 0 := by unfold erl; split <;> simp

set_option maxHeartbeats 1000000 in
theorem unique_any (a : Option Addr) (c : Nat) (g : List Wd) (w : World) (hg : Wds w a c g) :
    Calls Try.prog 8 #[.slice a g.length c] w fun e w' => e = .returned (.tuple #[.bool (ub g), .int .i64 (erl g)]) ∧ Ext w w' := by
  rcases erl_two g with he | he
  · have hc := twice_bad a c g w hg he
    have hu : ub g = false := by simp [ub, he]
    rw [he, hu]
    generalize g.length = n at *
    clear hg he hu
    go_enter Try.func8, Try.ntmps8
    go_wp2_with (go_at_call 11; refine hc.mono ?_; rintro e w1 ⟨rfl, hb⟩)
    go_ret2
    exact ⟨rfl, hb⟩
  · have hc := twice_good a c g w hg he
    have hu : ub g = uq g := by simp [ub, he]
    rw [he, hu]
    have hc' : Calls Try.prog 11 #[.slice a g.length c] w fun e w' => Ext w w' ∧ ∃ (xa : Option Addr) (xn xc : Nat) (ya : Option Addr) (yn yc : Nat), (e = .returned (.tuple #[.slice xa xn xc, .slice ya yn yc, .int .i64 5]) ∧ uq g = true) ∨ (e = .returned (.tuple #[.slice xa xn xc, .slice ya yn yc, .int .i64 0]) ∧ uq g = false) := by
      refine hc.mono ?_
      rintro e w' ⟨h1, x, y, _, _, h⟩
      refine ⟨h1, x.a, x.z.length, x.c, y.a, y.z.length, y.c, ?_⟩
      rcases h with ⟨h2, h3, _⟩ | ⟨h2, h3, _⟩
      · exact Or.inl ⟨h2, uq_true h3⟩
      · exact Or.inr ⟨h2, uq_false h3.not⟩
    generalize uq g = r at *
    generalize g.length = n at *
    clear hg he hu hc
    go_enter Try.func8, Try.ntmps8
    go_wp2_with fail
    refine hc'.mono ?_
    rintro e w1 ⟨hb, xa, xn, xc, ya, yn, yc, ⟨rfl, rfl⟩ | ⟨rfl, rfl⟩⟩
    · go_wp2
      go_ret2
      exact ⟨rfl, hb⟩
    · go_wp2
      go_ret2
      exact ⟨rfl, hb⟩

/-- A word has no bit. -/
def bareB (g : List Wd) : Bool := g.any (fun x => x.l.length == 0)

set_option maxHeartbeats 1000000 in
theorem bare_any (a : Option Addr) (c : Nat) (g : List Wd) (w : World) (hg : Wds w a c g) :
    Calls Try.prog 16 #[.slice a g.length c] w fun e w' => e = .returned (.bool (bareB g)) ∧ w' = w := by
  obtain ⟨h1, h2, _, b, o, h4, h5⟩ := hg
  obtain ⟨n, hn⟩ : ∃ n, g.length = n := ⟨_, rfl⟩
  have HN : Hid (g.length = n) := hn
  have H5 : Hid (∀ i (h : i < g.length), w.cell? ⟨b, o + i, none⟩ = some (g[i].v)) := h5
  unfold maxLen at h2
  rw [hn] at h1 h4 ⊢
  clear hn h5
  go_enter Try.func16, Try.ntmps16
  go_wp2
  go_loopg [4, 7] n (fun gg _ s wr => wr = w ∧ ∃ i : Nat, i ≤ n ∧ n - i ≤ gg ∧ s = .int .i64 i ∧ Aside (∀ i' (h : i' < g.length), i' < i → g[i'].l.length ≠ 0))
  case atStart => exact ⟨rfl, 0, Nat.zero_le _, by omega, rfl, fun _ _ h => absurd h (Nat.not_lt_zero _)⟩
  case round =>
    obtain ⟨hw, i, hi, hgg, rfl, A⟩ := hrel
    have hw := hw.symm
    subst hw
    by_cases hlt : i < n
    · have hltz : (i : Int) < (n : Int) := by omega
      obtain rfl := h4 (by omega)
      have hil : i < g.length := by rw [HN.out]; exact hlt
      have e1 := H5.out i hil
      obtain ⟨x, hx⟩ : ∃ x, g[i] = x := ⟨_, rfl⟩
      have HX : Hid (g[i] = x) := hx
      rw [hx] at e1
      clear hx h4
      obtain ⟨xa, xc, xl⟩ := x
      simp only [Wd.v] at e1
      obtain ⟨q, hq⟩ : ∃ q, xl.length = q := ⟨_, rfl⟩
      have HQ : Hid (xl.length = q) := hq
      rw [hq] at e1
      clear hq
      by_cases h0 : q = 0
      · subst h0
        have hx0 : Hid (bareB g = true) := List.any_eq_true.2 ⟨g[i], List.getElem_mem hil, by rw [HX.out]; simp [HQ.out]⟩
        go_wp2
        go_ret
        exact ⟨ret_bool hx0.out.symm, rfl⟩
      · have h0z : ¬ (q : Int) = 0 := by omega
        have A' : Hid (∀ i' (h : i' < g.length), i' < i + 1 → g[i'].l.length ≠ 0) := fun i' h hlt' => by
          by_cases e : i' = i
          · subst e
            rw [HX.out]
            simp only [HQ.out]
            exact h0
          · exact A.out i' h (by omega)
        clear A
        go_wp2
        go_roundg (n - (i + 1))
        case measure => omega
        case rel => exact ⟨rfl, i + 1, by omega, by omega, by go_num, A'.out⟩
    · have NB : Hid (bareB g = false) := List.any_eq_false.2 (fun x hx => by
        obtain ⟨k, hk, rfl⟩ := List.mem_iff_getElem.1 hx
        have := A.out k hk (by have := HN.out; omega)
        simpa using this)
      clear A
      go_wp2
      go_ret
      exact ⟨ret_bool NB.out.symm, rfl⟩

end Go.Proofs.Ytlhkifbjbibfoaa
