/-
  phrase.eachAhead: whether each phrase is made of one ahead of it.
-/
import Derived.Test.YtjgheojfdkfmkaaPh
import Derived.Test.YtjgheojfdkfmkaaLz
namespace Go.Proofs.Ytjgheojfdkfmkaa
open Go.RowKit

/-- What is answered: whether each is ahead. -/
def Told (g : List (Int × Int)) (e : Ending) : Prop := (Vd g ∧ e = .returned (.bool true)) ∨ (¬ Vd g ∧ e = .returned (.bool false))

set_option maxHeartbeats 2000000 in
theorem each_any (x : Pm) (w : World) (hx : Phs w x) :
    Calls Try.prog 14 #[x.v] w fun e w' => Told x.g e ∧ Ext w w' := by
  obtain ⟨a, c, g⟩ := x
  obtain ⟨h1, h2, h0, b, o, h3, h4⟩ := hx
  simp only [Pm.v] at *
  obtain ⟨n, hn⟩ : ∃ n, g.length = n := ⟨_, rfl⟩
  have HN : Hid (g.length = n) := hn
  have d0 : ∀ i, i < n → w.cell? ⟨b, o + i * 2, none⟩ = some (.int .i64 (g.getD i (0, 0)).1) ∧ w.cell? ⟨b, o + i * 2 + 1, none⟩ = some (.int .u8 (g.getD i (0, 0)).2) := by
    intro i hi
    have := h4 i (by omega)
    simpa [List.getD_eq_getElem?_getD, show i < g.length by omega] using this
  rw [hn] at h1 h3 ⊢
  unfold maxLen at h2
  clear h4 hn
  go_enter Try.func14, Try.ntmps14
  go_wp2
  go_loopg [3, 4, 7] n (fun gg _ _ s wr => ∃ k : Nat, k ≤ n ∧ n - k ≤ gg ∧ s = .int .i64 k ∧ Aside (Ext w wr) ∧ Aside (∀ i, i < k → 0 ≤ (g.getD i (0, 0)).1 ∧ (g.getD i (0, 0)).1 ≤ i))
  case atStart => exact ⟨0, Nat.zero_le _, by omega, rfl, Ext.refl w, fun j hj => absurd hj (Nat.not_lt_zero _)⟩
  case round =>
    obtain ⟨k, hk, hg, rfl, BW, A⟩ := hrel
    by_cases hlt : k < n
    · have hltz : (k : Int) < (n : Int) := by omega
      obtain rfl := h3 (by omega)
      obtain ⟨e1, e2⟩ := d0 k hlt
      have e1 := BW.out.cell e1
      have e2 := BW.out.cell e2
      clear h3 d0
      generalize hy1 : (g.getD k (0, 0)).1 = y1 at e1
      generalize (g.getD k (0, 0)).2 = y2 at e2
      have Y : Aside ((g.getD k (0, 0)).1 = y1) := hy1
      clear hy1
      by_cases hneg : y1 < 0
      · have F : Hid (¬ Vd g) := fun h => by
          have h5 := (h k (by rw [HN.out]; exact hlt)).1
          have h6 := Y.out
          have h7 : k < g.length := by rw [HN.out]; exact hlt
          simp only [List.getD_eq_getElem?_getD, List.getElem?_eq_getElem h7, Option.getD_some] at h6
          omega
        clear Y A
        go_wp2
        go_ret
        exact ⟨.inr ⟨F.out, rfl⟩, BW.out.alloc _⟩
      · by_cases hbig : y1 > (k : Int)
        · have F : Hid (¬ Vd g) := fun h => by
            have h5 := (h k (by rw [HN.out]; exact hlt)).2
            have h6 := Y.out
            have h7 : k < g.length := by rw [HN.out]; exact hlt
            simp only [List.getD_eq_getElem?_getD, List.getElem?_eq_getElem h7, Option.getD_some] at h6
            omega
          clear Y A
          go_wp2
          go_ret
          exact ⟨.inr ⟨F.out, rfl⟩, BW.out.alloc _⟩
        · have go : Aside (∀ i, i < k + 1 → 0 ≤ (g.getD i (0, 0)).1 ∧ (g.getD i (0, 0)).1 ≤ i) := fun i hi => by
            rcases Nat.lt_succ_iff_lt_or_eq.1 hi with h' | rfl
            · exact A.out i h'
            · rw [Y.out]; omega
          clear Y A
          go_wp2
          go_roundg (n - (k + 1))
          case measure => omega
          case rel => exact ⟨k + 1, by omega, by omega, by go_num, BW.out.alloc _, go.out⟩
    · have F : Hid (Vd g) := fun i hi => by
        have h5 := A.out i (by have := HN.out; omega)
        simpa only [List.getD_eq_getElem?_getD, List.getElem?_eq_getElem hi, Option.getD_some] using h5
      go_wp2
      go_ret
      exact ⟨.inl ⟨F.out, rfl⟩, BW.out⟩

end Go.Proofs.Ytjgheojfdkfmkaa
