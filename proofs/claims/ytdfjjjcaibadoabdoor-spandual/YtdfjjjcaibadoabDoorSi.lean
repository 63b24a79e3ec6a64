/-
  slices.insertionSortOrdered of words.
-/
import Derived.Test.YtdfjjjcaibadoabDoorSa
namespace Go.Proofs.YtdfjjjcaibadoabDoor
open Go.RowKit Go.Sort

theorem insInner_stop {a j : Nat} {d : Array Nat} (h : ¬ a < j ∨ lt d[j]! d[j - 1]! = false) : insInner lt a j d = d := by
  cases j with
  | zero => rfl
  | succ j =>
    show (if _ then _ else d) = d
    rw [if_neg]
    rcases h with h | h
    · simp; omega
    · simp at h; simp [h]
theorem insInner_go {a j : Nat} {d : Array Nat} (h1 : a < j + 1) (h2 : lt d[j + 1]! d[j]! = true) : insInner lt a (j + 1) d = insInner lt a j (swp d (j + 1) j) := by
  show (if _ then _ else d) = _
  rw [if_pos]
  simp [h1, h2]
theorem insOuter_go {a b i : Nat} {d : Array Nat} (h : i < b) : insOuter lt a b i d = insOuter lt a b (i + 1) (insInner lt a i d) := by
  rw [insOuter, if_pos h]
theorem insOuter_stop {a b i : Nat} {d : Array Nat} (h : ¬ i < b) : insOuter lt a b i d = d := by
  rw [insOuter, if_neg h]

set_option maxHeartbeats 4000000 in
theorem insort_any (B c n a b : Nat) (d : Array Nat) (r : List Value) (w : World) (hr : UA w B d r) (hn : d.size = n) (hn2 : n ≤ 1000) (hab : a ≤ b) (hb : b ≤ n) :
    Calls Tryd.prog 34 #[.slice (some ⟨B, 0, none⟩) n c, .int .i64 a, .int .i64 b] w
      fun e w' => e = .returned (.tuple #[]) ∧ Hid (UA w' B (insertionSort lt d a b) r) ∧ Hid (KB B w w') := by
  have st : Hid (∃ s : Array Nat, UA w B s r ∧ s.size = n ∧ insOuter lt a b (a + 1) s = insertionSort lt d a b) := ⟨d, hr, hn, rfl⟩
  generalize insertionSort lt d a b = T at *
  clear hr hn
  have LS : Hid (∀ W x y, Calls Tryd.prog 40 #[.int .u32 (x : Nat), .int .u32 (y : Nat)] W fun e w' => e = .returned (.bool (lt x y)) ∧ ∃ m, w' = W.drewN m) := fun W x y => less_any x y W
  go_enter Tryd.func34, Tryd.ntmps34
  go_wp2
  go_loopg [6, 7] n (fun gg s _ wr => ∃ i : Nat, a + 1 ≤ i ∧ i ≤ b + 1 ∧ n - i ≤ gg ∧ s = .int .i64 i ∧ Aside (KB B w wr) ∧ Aside (∃ s, UA wr B s r ∧ s.size = n ∧ insOuter lt a b i s = T))
  case atStart => exact ⟨a + 1, by omega, by omega, by omega, by go_num, KB.refl _ _, st.out⟩
  case round =>
    obtain ⟨i, hi1, hi2, hgg, rfl, BW, A⟩ := hrel
    clear st
    by_cases hlt : i < b
    · have hltz : (i : Int) < (b : Int) := by omega
      obtain ⟨s, u1, u2, u3⟩ := A.out
      rw [insOuter_go hlt] at u3
      have U3 : Hid (insOuter lt a b (i + 1) (insInner lt a i s) = T) := u3
      clear u3
      generalize hTi : insInner lt a i s = Ti at *
      have st2 : Hid (∃ s', UA wr B s' r ∧ s'.size = n ∧ insInner lt a i s' = Ti) := ⟨s, u1, u2, hTi⟩
      clear hTi u1 u2 A
      go_wp2
      go_loopg [7] i (fun gg s wi => ∃ j : Nat, a ≤ j ∧ j ≤ i ∧ j ≤ gg ∧ s = .int .i64 j ∧ Aside (KB B w wi) ∧ Aside (∃ s', UA wi B s' r ∧ s'.size = n ∧ insInner lt a j s' = Ti))
      case atStart => exact ⟨i, by omega, Nat.le_refl _, Nat.le_refl _, rfl, BW.out, st2.out⟩
      case round =>
        obtain ⟨j, hj0, hj1, hj2, rfl, BW2, A2⟩ := hrel
        clear st2 BW
        by_cases hja : j = a
        · subst hja
          have nx : Hid (∃ s, UA wr B s r ∧ s.size = n ∧ insOuter lt j b (i + 1) s = T) := by
            obtain ⟨s', v1, v2, v3⟩ := A2.out
            rw [insInner_stop (Or.inl (by omega))] at v3
            exact ⟨s', v1, v2, by rw [v3]; exact U3.out⟩
          clear A2 U3
          go_wp2
          go_quiet (fail)
          go_wp2
          go_roundg (n - (i + 1))
          case measure => omega
          case rel => exact ⟨i + 1, by omega, by omega, by omega, by go_num, BW2.out.trans (KB.of_ext (Qt.ext ⟨_, rfl⟩)), by
            obtain ⟨s, h1, h2, h3⟩ := nx.out
            exact ⟨s, h1.ext (Qt.ext ⟨_, rfl⟩), h2, h3⟩⟩
        · obtain ⟨s', v1, v2, v3⟩ := A2.out
          obtain ⟨k, rfl⟩ : ∃ k, j = k + 1 := ⟨j - 1, by omega⟩
          have e1 := v1.cell (i := k + 1) (by omega)
          have e2 := v1.cell (i := k) (by omega)
          have f1 := v1.fr (k + 1)
          have f2 := v1.fr k
          have hpz : (k : Int) + 1 > (a : Int) := by omega
          have b1 : (k : Int) + 1 < (n : Int) := by omega
          have b0 : (k : Int) < (n : Int) := by omega
          have hc : Hid (∀ q, Calls Tryd.prog 40 #[.int .u32 (s'[k + 1]! : Nat), .int .u32 (s'[k]! : Nat)] (wr.drewN q) fun e w' => e = .returned (.bool (lt s'[k + 1]! s'[k]!)) ∧ ∃ m, w' = (wr.drewN q).drewN m) := fun q => LS.out _ _ _
          have SW : Hid (∀ W, Qt wr W → UA ((W.setCell ⟨B, k + 1, none⟩ (.int .u32 (s'[k]! : Nat))).setCell ⟨B, k, none⟩ (.int .u32 (s'[k + 1]! : Nat))) B (swp s' (k + 1) k) r) := fun W hq => (v1.ext hq.ext).swp (by omega) (by omega)
          have SZ : Hid ((swp s' (k + 1) k).size = n) := by show _ = _; rw [size_swp]; exact v2
          have YES : Hid (lt s'[k + 1]! s'[k]! = true → insInner lt a k (swp s' (k + 1) k) = Ti) := fun h => by rw [← insInner_go (by omega) h]; exact v3
          have NO : Hid (lt s'[k + 1]! s'[k]! = false → ∃ s, UA wr B s r ∧ s.size = n ∧ insOuter lt a b (i + 1) s = T) := fun h => ⟨s', v1, v2, by
            rw [insInner_stop (Or.inr (by simpa using h))] at v3
            rw [v3]; exact U3.out⟩
          clear v1 v2 v3 A2 
          generalize swp s' (k + 1) k = s2 at *
          generalize s'[k + 1]! = x at *
          generalize s'[k]! = y at *
          cases hl : lt x y
          · have nx : Hid (∃ s, UA wr B s r ∧ s.size = n ∧ insOuter lt a b (i + 1) s = T) := NO.out hl
            rw [hl] at hc
            clear YES NO SW SZ U3 f1 f2 hl
            go_wp2
            go_quiet ((go_at_call 40; exact Calls.quiet_of (hc.out _)))
            go_wp2
            go_roundg (n - (i + 1))
            case measure => omega
            case rel => exact ⟨i + 1, by omega, by omega, by omega, by go_num, BW2.out.trans (KB.of_ext (Qt.ext ⟨_, rfl⟩)), by
              obtain ⟨s, h1, h2, h3⟩ := nx.out
              exact ⟨s, h1.ext (Qt.ext ⟨_, rfl⟩), h2, h3⟩⟩
          · have nx : Hid (insInner lt a k s2 = Ti) := YES.out hl
            rw [hl] at hc
            clear YES NO hl
            go_wp2
            go_quiet ((go_at_call 40; exact Calls.quiet_of (hc.out _)))
            go_wp2
            go_region
            go_wp2
            go_roundg k
            case measure => omega
            case rel => exact ⟨k, by omega, by omega, by omega, by go_num, ((BW2.out.trans (KB.of_ext (Qt.ext ⟨_, rfl⟩))).setCell _).setCell _, s2, SW.out _ ⟨_, rfl⟩, SZ.out, nx.out⟩
    · have fin : Hid (UA wr B T r) := by
        obtain ⟨s, h1, h2, h3⟩ := A.out
        rw [insOuter_stop hlt] at h3
        rw [← h3]; exact h1
      clear A
      go_wp2
      go_end0
      exact ⟨rfl, fin, BW.out⟩

end Go.Proofs.YtdfjjjcaibadoabDoor
