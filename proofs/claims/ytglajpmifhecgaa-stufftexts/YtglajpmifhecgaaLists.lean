/-
  What quipuref.Lists answers of two codes.
-/
import Derived.Test.YtglajpmifhecgaaFun
namespace Go.Proofs.Ytglajpmifhecgaa
open Go.RowKit

theorem Wds.sub {w : World} {a : Option Addr} {c : Nat} {g : List Wd} (hg : Wds w a c g) (i : Nat) (hi : i < g.length) : Bits w g[i] := hg.2.2.1 _ (List.getElem_mem hi)

set_option maxHeartbeats 1000000 in
theorem lists_ne (a1 a2 : Option Addr) (n1 n2 c1 c2 : Nat) (w : World) (hne : ((n1 : Int) == (n2 : Int)) = false) :
    Calls Try.prog 18 #[.slice a1 n1 c1, .slice a2 n2 c2] w fun e w' => e = .returned (.bool false) ∧ Qt w w' := by
  go_enter Try.func18, Try.ntmps18
  go_wp2
  go_ret
  exact ⟨rfl, Qt.refl w⟩

set_option maxHeartbeats 1000000 in
theorem lists_eq (a1 a2 : Option Addr) (c1 c2 : Nat) (g1 g2 : List Wd) (w : World) (h1 : Wds w a1 c1 g1) (h2 : Wds w a2 c2 g2) (hl : g1.length = g2.length) :
    Calls Try.prog 18 #[.slice a1 g1.length c1, .slice a2 g1.length c2] w fun e w' => e = .returned (.bool (decide (∀ i (hi : i < g1.length), g1[i].l = (g2[i]'(hl ▸ hi)).l))) ∧ Qt w w' := by
  have H1 : Hid (Wds w a1 c1 g1) := h1
  have H2 : Hid (Wds w a2 c2 g2) := h2
  obtain ⟨k1, k2, _, b1, o1, k4, k5⟩ := h1
  obtain ⟨j1, j2, _, b2, o2, j4, j5⟩ := h2
  have HL : Hid (g1.length = g2.length) := hl
  have K5 : Hid (∀ i (h : i < g1.length), w.cell? ⟨b1, o1 + i, none⟩ = some (g1[i].v)) := k5
  have J5 : Hid (∀ i (h : i < g2.length), w.cell? ⟨b2, o2 + i, none⟩ = some (g2[i].v)) := j5
  obtain ⟨R, hR⟩ : ∃ R, decide (∀ i (hi : i < g1.length), g1[i].l = (g2[i]'(hl ▸ hi)).l) = R := ⟨_, rfl⟩
  have HR : Hid (decide (∀ i (hi : i < g1.length), g1[i].l = (g2[i]'(HL.out ▸ hi)).l) = R) := hR
  rw [hR]
  unfold maxLen at k2 j2
  rw [← hl] at j4 j1
  obtain ⟨n, hn⟩ : ∃ n, g1.length = n := ⟨_, rfl⟩
  have HN : Hid (g1.length = n) := hn
  rw [hn] at k1 k4 j4 j1 ⊢
  clear hn hl k5 j5 hR
  go_enter Try.func18, Try.ntmps18
  go_wp2
  go_loopg [5] n (fun gg s wr => ∃ k : Nat, k ≤ n ∧ n - k ≤ gg ∧ s = .int .i64 k ∧ Aside (Qt w wr) ∧ Aside (∀ i (hi : i < g1.length), i < k → g1[i].l = (g2[i]'(HL.out ▸ hi)).l))
  case atStart => exact ⟨0, Nat.zero_le _, by omega, rfl, Qt.refl w, fun i _ h => absurd h (Nat.not_lt_zero _)⟩
  case round =>
    obtain ⟨k, hk, hgg, rfl, BW, A⟩ := hrel
    by_cases hlt : k < n
    · have hltz : (k : Int) < (n : Int) := by omega
      obtain rfl := k4 (by omega)
      obtain rfl := j4 (by omega)
      have hk1 : k < g1.length := by rw [HN.out]; exact hlt
      have hk2 : k < g2.length := HL.out ▸ hk1
      have e1 := BW.out.cell (K5.out k hk1)
      have e2 := BW.out.cell (J5.out k hk2)
      have hc : Hid (∀ W, Qt wr W → Calls Try.prog 10 #[g1[k].v, g2[k].v] W fun e w' => e = .returned (.bool (g1[k].l == g2[k].l)) ∧ ∃ m, w' = W.drewN m) :=
        fun W q => bools_any g1[k] g2[k] W ((H1.out.sub k hk1).ext (BW.out.trans q).ext) ((H2.out.sub k hk2).ext (BW.out.trans q).ext)
      have no : Hid ((g1[k].l == g2[k].l) = false → R = false) := fun h => by
        rw [← HR.out]
        refine decide_eq_false (fun h' => ?_)
        rw [h' k hk1] at h
        simp at h
      have yes : Hid ((g1[k].l == g2[k].l) = true → ∀ i (hi : i < g1.length), i < k + 1 → g1[i].l = (g2[i]'(HL.out ▸ hi)).l) := fun h i hi hi' => by
        rcases Nat.lt_succ_iff_lt_or_eq.1 hi' with h' | rfl
        · exact A.out i hi h'
        · exact beq_iff_eq.1 h
      clear k4 j4
      generalize g1[k] = x at e1 hc no yes
      generalize g2[k] = y at e2 hc no yes
      generalize (x.l == y.l) = r at hc no yes
      simp only [Wd.v] at e1 e2
      cases r
      · have no' : Hid (R = false) := no.out rfl
        clear no yes
        go_wp2
        go_quiet ((go_at_call 10; exact Calls.quiet_of (hc.out _ ⟨_, rfl⟩)))
        go_wp2
        go_ret
        exact ⟨ret_bool no'.out.symm, BW.out.drewN _⟩
      · have yes' : Hid (∀ i (hi : i < g1.length), i < k + 1 → g1[i].l = (g2[i]'(HL.out ▸ hi)).l) := yes.out rfl
        clear no yes
        go_wp2
        go_quiet ((go_at_call 10; exact Calls.quiet_of (hc.out _ ⟨_, rfl⟩)))
        go_wp2
        go_roundg (n - (k + 1))
        case measure => omega
        case rel => exact ⟨k + 1, by omega, by omega, by go_num, BW.out.drewN _, yes'.out⟩
    · have fin : Hid (R = true) := by
        show _ = _
        rw [← HR.out]
        exact decide_eq_true (fun i hi => A.out i hi (by have := HN.out; omega))
      go_wp2
      go_ret
      exact ⟨ret_bool fin.out.symm, BW.out⟩

theorem lists_same (a1 a2 : Option Addr) (c1 c2 : Nat) (g1 g2 : List Wd) (w : World) (h1 : Wds w a1 c1 g1) (h2 : Wds w a2 c2 g2) (hm : g1.map (·.l) = g2.map (·.l)) :
    Calls Try.prog 18 #[.slice a1 g1.length c1, .slice a2 g2.length c2] w fun e w' => e = .returned (.bool true) ∧ Qt w w' := by
  have hl : g1.length = g2.length := by have := congrArg List.length hm; simpa using this
  have := lists_eq a1 a2 c1 c2 g1 g2 w h1 h2 hl
  rw [← hl]
  rw [decide_eq_true] at this
  · exact this
  · intro i hi
    have h3 : (g1.map (·.l))[i]? = (g2.map (·.l))[i]? := by rw [hm]
    rw [List.getElem?_map, List.getElem?_map, List.getElem?_eq_getElem hi, List.getElem?_eq_getElem (hl ▸ hi)] at h3
    simpa using h3

end Go.Proofs.Ytglajpmifhecgaa
