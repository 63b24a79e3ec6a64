/-
  quipuref.Least.
-/
import Derived.Test.YtfcleenbhadfhabLe
namespace Go.Proofs.Ytfcleenbhadfhab
open Go.RowKit

/-- What the two loops have when they stand at i and j. -/
def PL (g : List Nat) (i j : Nat) (L : Int) : Prop := (∀ a b, b < a → (a < i ∨ a = i ∧ b < j) → 0 ≤ L ∧ L ≤ (far (g.getD a 0) (g.getD b 0) : Nat)) ∧ (0 ≤ L → ∃ a b, b < a ∧ (a < i ∨ a = i ∧ b < j) ∧ L = (far (g.getD a 0) (g.getD b 0) : Nat))

theorem PL.next {g : List Nat} {i : Nat} {L : Int} (h : PL g i i L) : PL g (i + 1) 0 L := by
  obtain ⟨h1, h2⟩ := h
  refine ⟨fun a b hb hc => h1 a b hb (by omega), fun h => ?_⟩
  obtain ⟨a, b, hb, hc, e⟩ := h2 h
  exact ⟨a, b, hb, by omega, e⟩

theorem PL.keep {g : List Nat} {i j : Nat} {L : Int} (hij : j < i) (h : PL g i j L) (h0 : 0 ≤ L) (hl : L ≤ (far (g.getD i 0) (g.getD j 0) : Nat)) : PL g i (j + 1) L := by
  obtain ⟨h1, h2⟩ := h
  refine ⟨fun a b hb hc => ?_, fun h => ?_⟩
  · by_cases e : a = i ∧ b = j
    · obtain ⟨rfl, rfl⟩ := e; exact ⟨h0, hl⟩
    · exact h1 a b hb (by omega)
  · obtain ⟨a, b, hb, hc, e⟩ := h2 h
    exact ⟨a, b, hb, by omega, e⟩

theorem PL.new {g : List Nat} {i j : Nat} {L : Int} (hij : j < i) (h : PL g i j L) (hl : L < 0 ∨ (far (g.getD i 0) (g.getD j 0) : Nat) < L) : PL g i (j + 1) (far (g.getD i 0) (g.getD j 0) : Nat) := by
  obtain ⟨h1, h2⟩ := h
  refine ⟨fun a b hb hc => ?_, fun h => ⟨i, j, hij, by omega, rfl⟩⟩
  by_cases e : a = i ∧ b = j
  · obtain ⟨rfl, rfl⟩ := e; exact ⟨by omega, by omega⟩
  · have hd : a < i ∨ a = i ∧ b < j := by omega
    have := h1 a b hb hd
    clear h1 h2
    exact ⟨by omega, by omega⟩

theorem refLeast_any (x : Um) (hl : x.z.length ≤ 64) (hb : ∀ y ∈ x.z, y < 4294967296) (w : World) (hx : Us w x) : Calls Try.prog 11 #[x.v] w fun e w' => (∃ L : Int, e = .returned (.int .i64 L) ∧ PL x.z x.z.length 0 L) ∧ Ext w w' := by
  obtain ⟨a, c, g⟩ := x
  obtain ⟨h1, h2, _, b, o, h4, h5⟩ := hx
  simp only at hl hb h1 h2 h4 h5
  simp only [Um.v]
  unfold maxLen at h2
  have H5 : Hid (∀ i, i < g.length → w.cell? ⟨b, o + i, none⟩ = some (.int .u32 (g.getD i 0 : Nat))) := h5
  have HB : ∀ i, i < g.length → g.getD i 0 < 4294967296 := fun i hi => by rw [getD_get hi]; exact hb _ (List.getElem_mem hi)
  have AP : Hid (∀ i j W, i < g.length → j < g.length → Calls Try.prog 14 #[.int .u32 (g.getD i 0 : Nat), .int .u32 (g.getD j 0 : Nat)] W fun e w' => e = .returned (.int .i64 (far (g.getD i 0) (g.getD j 0) : Nat)) ∧ w' = W) := fun i j W hi hj => refApart_any _ _ (HB i hi) (HB j hj) W
  have F32 : Hid (∀ i j, far (g.getD i 0) (g.getD j 0) ≤ 32) := fun i j => far_le32 _ _
  have P0 : Hid (PL g 0 0 (-1)) := ⟨fun a b h h' => by omega, fun h => by omega⟩
  clear h5 hb HB
  have L : ∃ m, g.length = m := ⟨_, rfl⟩
  obtain ⟨m, hm⟩ := L
  rw [hm] at hl h1 h4 H5 AP ⊢
  clear hm
  go_enter Try.func11, Try.ntmps11
  go_wp2
  go_loopg [3, 4, 5] m (fun gg s3 s _ wr => ∃ (k : Nat) (L : Int), k ≤ m ∧ m - k ≤ gg ∧ s = .int .i64 k ∧ s3 = .int .i64 L ∧ (-1 ≤ L ∧ L ≤ 32) ∧ Aside (PL g k 0 L) ∧ Aside (Qt w wr))
  case atStart => exact ⟨0, -1, Nat.zero_le _, by omega, rfl, rfl, by omega, P0.out, Qt.refl w⟩
  case round =>
    obtain ⟨k, L, hk, hgg, rfl, rfl, hL, PP, BW⟩ := hrel
    by_cases hlt : k < m
    · have hltz : (k : Int) < (m : Int) := by omega
      obtain rfl := h4 (by omega)
      go_wp2
      go_loopg [3, 5] k (fun gg s3 s wr2 => ∃ (j : Nat) (L : Int), j ≤ k ∧ k - j ≤ gg ∧ s = .int .i64 j ∧ s3 = .int .i64 L ∧ (-1 ≤ L ∧ L ≤ 32) ∧ Aside (PL g k j L) ∧ Aside (Qt w wr2))
      case atStart => exact ⟨0, L, Nat.zero_le _, by omega, rfl, rfl, hL, PP.out, BW.out⟩
      case round =>
        clear PP BW hL
        obtain ⟨j, L, hj, hgj, rfl, rfl, hL, PP, BW⟩ := hrel
        by_cases hjl : j < k
        · have hjlz : (j : Int) < (k : Int) := by omega
          have hjm : (j : Int) < (m : Int) := by omega
          have e1 := BW.out.cell (H5.out k hlt)
          have e2 := BW.out.cell (H5.out j (by omega))
          have ap : Hid (∀ W, Calls Try.prog 14 #[.int .u32 (g.getD k 0 : Nat), .int .u32 (g.getD j 0 : Nat)] W fun e w' => e = .returned (.int .i64 (far (g.getD k 0) (g.getD j 0) : Nat)) ∧ w' = W) := fun W => AP.out k j _ hlt (by omega)
          have f32 := F32.out k j
          have kp : Hid (0 ≤ L → L ≤ (far (g.getD k 0) (g.getD j 0) : Nat) → PL g k (j + 1) L) := PP.out.keep hjl
          have nw : Hid ((L < 0 ∨ (far (g.getD k 0) (g.getD j 0) : Nat) < L) → PL g k (j + 1) (far (g.getD k 0) (g.getD j 0) : Nat)) := PP.out.new hjl
          clear AP F32 H5 PP P0
          generalize far (g.getD k 0) (g.getD j 0) = F at *
          generalize g.getD k 0 = y at *
          generalize g.getD j 0 = v at *
          rcases Int.lt_or_le L 0 with h0 | h0
          · have G : Aside (PL g k (j + 1) (F : Nat)) := nw.out (Or.inl h0)
            clear kp nw
            go_wp2
            go_quiet (fail)
            go_wp2
            have B2 : Aside (Qt w (wr.drewN nq)) := BW.out.drewN nq
            replace e1 := ((Qt.refl wr).drewN nq).cell e1
            replace e2 := ((Qt.refl wr).drewN nq).cell e2
            generalize wr.drewN nq = W' at *
            go_quiet ((go_at_call 14; exact Calls.quiet_of_same (ap.out _)))
            go_wp2
            go_roundg (k - (j + 1))
            case measure => omega
            case rel => exact ⟨j + 1, F, by omega, by omega, by go_num, rfl, by omega, G.out, B2.out.drewN _⟩
          · have h0f : decide (L < 0) = false := decide_eq_false (by omega)
            rcases Int.lt_or_le (F : Int) L with hf | hf
            · have G : Aside (PL g k (j + 1) (F : Nat)) := nw.out (Or.inr hf)
              clear kp nw
              go_wp2
              go_quiet ((go_at_call 14; exact Calls.quiet_of_same (ap.out _)))
              go_wp2
              have B2 : Aside (Qt w (wr.drewN nq)) := BW.out.drewN nq
              replace e1 := ((Qt.refl wr).drewN nq).cell e1
              replace e2 := ((Qt.refl wr).drewN nq).cell e2
              generalize wr.drewN nq = W' at *
              go_quiet ((go_at_call 14; exact Calls.quiet_of_same (ap.out _)))
              go_wp2
              go_roundg (k - (j + 1))
              case measure => omega
              case rel => exact ⟨j + 1, F, by omega, by omega, by go_num, rfl, by omega, G.out, B2.out.drewN _⟩
            · have G : Aside (PL g k (j + 1) L) := kp.out h0 hf
              have hff : decide ((F : Int) < L) = false := decide_eq_false (by omega)
              clear kp nw
              go_wp2
              go_quiet ((go_at_call 14; exact Calls.quiet_of_same (ap.out _)))
              go_wp2
              go_roundg (k - (j + 1))
              case measure => omega
              case rel => exact ⟨j + 1, L, by omega, by omega, by go_num, rfl, by omega, G.out, BW.out.drewN _⟩
        · obtain rfl : j = k := by omega
          have G : Aside (PL g (j + 1) 0 L) := PP.out.next
          go_wp2
          go_roundg (m - (j + 1))
          case measure => omega
          case rel => exact ⟨j + 1, L, by omega, by omega, by go_num, rfl, by omega, G.out, BW.out⟩
    · obtain rfl : k = m := by omega
      go_wp2
      go_ret
      exact ⟨⟨L, rfl, PP.out⟩, BW.out.ext⟩

theorem PL.isL {g : List Nat} {L : Int} (h : PL g g.length 0 L) (hl : 2 ≤ g.length) : IsL g L := by
  obtain ⟨h1, h2⟩ := h
  have h0 := (h1 1 0 (by omega) (by omega)).1
  refine ⟨fun a b hb ha => (h1 a b hb (Or.inl ha)).2, ?_⟩
  obtain ⟨a, b, hb, hc, e⟩ := h2 h0
  exact ⟨a, b, hb, by omega, e⟩

end Go.Proofs.Ytfcleenbhadfhab
