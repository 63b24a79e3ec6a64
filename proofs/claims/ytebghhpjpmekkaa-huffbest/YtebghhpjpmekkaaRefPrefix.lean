/-
  What quipuref.Prefix answers of a code: whether no word of it begins another one.
-/
import Derived.Test.YtebghhpjpmekkaaFree
namespace Go.Proofs.Ytebghhpjpmekkaa
open Go.RowKit

/-- No word ahead of the i-th begins another one. -/
def NoneTo (g : List Wd) (i : Nat) : Prop := ∀ i' j' (hi : i' < g.length) (hj : j' < g.length), i' < i → i' ≠ j' → g[i'].l.isPrefixOf g[j'].l = false
/-- The i-th word begins none of those ahead of the j-th. -/
def RowTo (g : List Wd) (i j : Nat) : Prop := ∀ j' (hi : i < g.length) (hj : j' < g.length), j' < j → i ≠ j' → g[i].l.isPrefixOf g[j'].l = false

theorem noneTo_next {g : List Wd} {i j : Nat} (h : NoneTo g i) (h' : RowTo g i j) (hj : g.length ≤ j) : NoneTo g (i + 1) := fun i' j' hi hj' hlt hne => by
  rcases Nat.lt_succ_iff_lt_or_eq.1 hlt with h1 | rfl
  · exact h i' j' hi hj' h1 hne
  · exact h' j' hi hj' (by omega) hne

theorem rowTo_next {g : List Wd} {i j : Nat} (h : RowTo g i j) (hx : ∀ (hi : i < g.length) (hj : j < g.length), i ≠ j → g[i].l.isPrefixOf g[j].l = false) : RowTo g i (j + 1) := fun j' hi hj' hlt hne => by
  rcases Nat.lt_succ_iff_lt_or_eq.1 hlt with h1 | rfl
  · exact h j' hi hj' h1 hne
  · exact hx hi hj' hne

set_option maxHeartbeats 1000000 in
theorem refPrefix_any (a : Option Addr) (c : Nat) (g : List Wd) (w : World) (hg : Wds w a c g) :
    Calls Try.prog 18 #[.slice a g.length c] w fun e w' => e = .returned (.bool (free g)) ∧ Qt w w' := by
  have HG : Hid (Wds w a c g) := hg
  obtain ⟨h1, h2, h3, b, o, h4, h5⟩ := hg
  obtain ⟨n, hn⟩ : ∃ n, g.length = n := ⟨_, rfl⟩
  have HN : Hid (g.length = n) := hn
  have H5 : Hid (∀ i (h : i < g.length), w.cell? ⟨b, o + i, none⟩ = some (g[i].v)) := h5
  unfold maxLen at h2
  rw [hn] at h1 h4 ⊢
  clear hn h5 h3
  go_enter Try.func18, Try.ntmps18
  go_wp2
  go_loopg [3, 4] n (fun gg s _ wr => ∃ i : Nat, i ≤ n ∧ n - i ≤ gg ∧ s = .int .i64 i ∧ Aside (Qt w wr) ∧ Aside (NoneTo g i))
  case atStart => exact ⟨0, Nat.zero_le _, by omega, rfl, Qt.refl w, fun i j hi hj h => absurd h (Nat.not_lt_zero _)⟩
  case round =>
    obtain ⟨i, hi, hgg, rfl, BW, A⟩ := hrel
    by_cases hlt : i < n
    · have hltz : (i : Int) < (n : Int) := by omega
      obtain rfl := h4 (by omega)
      have hil : i < g.length := by rw [HN.out]; exact hlt
      clear h4
      go_wp2
      go_loopg [4] n (fun gg s wr' => ∃ j : Nat, j ≤ n ∧ n - j ≤ gg ∧ s = .int .i64 j ∧ Aside (Qt w wr') ∧ Aside (RowTo g i j))
      case atStart => exact ⟨0, Nat.zero_le _, by omega, rfl, BW.out, fun j hj hj' h => absurd h (Nat.not_lt_zero _)⟩
      case round =>
        obtain ⟨j, hj, hgg2, rfl, BW2, A2⟩ := hrel
        by_cases hlt2 : j < n
        · have hltz2 : (j : Int) < (n : Int) := by omega
          have hjl : j < g.length := by rw [HN.out]; exact hlt2
          by_cases hij : i = j
          · have hb : ((i : Int) != (j : Int)) = false := by simp; omega
            have nx : Hid (RowTo g i (j + 1)) := rowTo_next A2.out (fun _ _ hne => absurd hij hne)
            clear hij
            go_wp2
            go_quiet (fail)
            go_wp2
            go_roundg (n - (j + 1))
            case measure => omega
            case rel => exact ⟨j + 1, by omega, by omega, by go_num, BW2.out.drewN _, nx.out⟩
          · have hb : ((i : Int) != (j : Int)) = true := by simp; omega
            have e1 := BW2.out.cell (H5.out i hil)
            have e2 := BW2.out.cell (H5.out j hjl)
            have hc : Hid (∀ W, Qt wr W → Calls Try.prog 33 #[g[i].v, g[j].v] W fun e w' => e = .returned (.bool (g[i].l.isPrefixOf g[j].l)) ∧ ∃ m, w' = W.drewN m) :=
              fun W q => refBegins_any g[i] g[j] W ((HG.out.sub i hil).ext (BW2.out.trans q).ext) ((HG.out.sub j hjl).ext (BW2.out.trans q).ext)
            have yes : Hid (g[i].l.isPrefixOf g[j].l = true → free g = false) := fun h => free_false' i j hil hjl hij h
            have no : Hid (g[i].l.isPrefixOf g[j].l = false → RowTo g i (j + 1)) := fun h => rowTo_next A2.out (fun _ _ _ => h)
            clear hij
            generalize g[i] = x at e1 hc yes no
            generalize g[j] = y at e2 hc yes no
            generalize x.l.isPrefixOf y.l = r at hc yes no
            simp only [Wd.v] at e1 e2
            cases r
            all_goals
              go_wp2
              go_quiet ((go_at_call 33; exact Calls.quiet_of (hc.out _ ⟨_, rfl⟩)))
              go_wp2
            · go_roundg (n - (j + 1))
              case measure => omega
              case rel => exact ⟨j + 1, by omega, by omega, by go_num, BW2.out.drewN _, no.out (by simp)⟩
            · go_ret
              exact ⟨ret_bool (yes.out (by simp)).symm, BW2.out.drewN _⟩
        · have nx : Hid (NoneTo g (i + 1)) := noneTo_next A.out A2.out (by have := HN.out; omega)
          go_wp2
          go_roundg (n - (i + 1))
          case measure => omega
          case rel => exact ⟨i + 1, by omega, by omega, by go_num, BW2.out, nx.out⟩
    · have hf : Hid (free g = true) := free_true' (fun i' j' hi' hj' hne => A.out i' j' hi' hj' (by have := HN.out; omega) hne)
      go_wp2
      go_ret
      exact ⟨ret_bool hf.out.symm, BW.out⟩

end Go.Proofs.Ytebghhpjpmekkaa
