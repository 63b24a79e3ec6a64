/-
  Bits in memory; which places are not lost: points.placesLeft.
-/
import Derived.Test.YtjdipgkdaloclaaRw
namespace Go.Proofs.Ytjdipgkdaloclaa
open Go.RowKit

/-- Bits as they lie in memory: where, their room, the bits. -/
structure Bd where
  a : Option Addr
  c : Nat
  l : List Bool

abbrev Bd.v (x : Bd) : Value := .slice x.a x.l.length x.c

def Bls (w : World) (x : Bd) : Prop :=
  x.l.length ≤ x.c ∧ x.c ≤ maxLen ∧ (x.a = none → x.c = 0) ∧
    ∃ b o, (0 < x.l.length → x.a = some ⟨b, o, none⟩) ∧ ∀ i, i < x.l.length → w.cell? ⟨b, o + i, none⟩ = some (.bool (x.l.getD i false))
theorem Bls.ext {w w' : World} {x : Bd} (h : Bls w x) (e : Ext w w') : Bls w' x := by
  obtain ⟨h1, h2, h0, b, o, h3, h4⟩ := h
  exact ⟨h1, h2, h0, b, o, h3, fun i hi => e.cell (h4 i hi)⟩

/-- The places below n that are not lost. -/
def lft (bs : List Bool) (n : Nat) : List Nat := (List.range n).filter fun i => !bs.getD i false
theorem lft_zero (bs : List Bool) : lft bs 0 = [] := rfl
theorem lft_next (bs : List Bool) (k : Nat) : lft bs (k + 1) = lft bs k ++ (if bs.getD k false then [] else [k]) := by
  unfold lft
  rw [List.range_succ, List.filter_append]
  congr 1
  rw [List.filter_cons]
  cases bs.getD k false
  · rfl
  · rfl
theorem lft_mem {bs : List Bool} {n i : Nat} : i ∈ lft bs n ↔ i < n ∧ bs.getD i false = false := by
  unfold lft
  rw [List.mem_filter, List.mem_range, Bool.not_eq_true']
theorem lft_len (bs : List Bool) (n : Nat) : (lft bs n).length ≤ n := by
  have := List.length_filter_le (fun i => !bs.getD i false) (List.range n)
  rwa [List.length_range] at this
theorem lft_pw (bs : List Bool) (n : Nat) : (lft bs n).Pairwise (· ≠ ·) := by
  unfold lft
  exact (List.Pairwise.filter _ (List.pairwise_lt_range (n := n))).imp (fun h => Nat.ne_of_lt h)
theorem pw_one {l : List Nat} (h : l.Pairwise (· ≠ ·)) {i j : Nat} (hi : i < l.length) (hj : j < l.length) (e : l.getD i 0 = l.getD j 0) : i = j := by
  rw [List.getD_eq_getElem?_getD, List.getD_eq_getElem?_getD, List.getElem?_eq_getElem hi, List.getElem?_eq_getElem hj] at e
  simp only [Option.getD_some] at e
  rcases Nat.lt_trichotomy i j with h' | h' | h'
  · exact absurd e (List.pairwise_iff_getElem.1 h i j hi hj h')
  · exact h'
  · exact absurd e.symm (List.pairwise_iff_getElem.1 h j i hj hi h')
theorem take_nl (l : List Nat) (k : Nat) (hk : k ≤ l.length) : l.take k = nl (fun i => l.getD i 0) k := by
  apply List.ext_getElem
  · simp; omega
  · intro i h1 h2
    have h3 : i < l.length := by
      rw [List.length_take] at h1
      omega
    simp [List.getD_eq_getElem?_getD, h3]
theorem getD_mem {l : List Nat} {i : Nat} (hi : i < l.length) : l.getD i 0 ∈ l := by
  rw [List.getD_eq_getElem?_getD, List.getElem?_eq_getElem hi]
  exact List.getElem_mem hi

theorem left_any (x : Bd) (hm : x.l.length ≤ 1000) (w : World) (hx : Bls w x) : Calls Try.prog 21 #[x.v] w fun e w' => ∃ v, e = .returned v ∧ OwnN w w' v (zl (lft x.l x.l.length)) := by
  obtain ⟨h1, h2, _, b, o, h3, h4⟩ := hx
  have HC : Hid (∀ i, i < x.l.length → w.cell? ⟨b, o + i, none⟩ = some (.bool (x.l.getD i false))) := h4
  have HA : Hid (0 < x.l.length → x.a = some ⟨b, o, none⟩) := h3
  have NX : Hid (∀ k, zl (lft x.l (k + 1)) = zl (lft x.l k) ++ (if x.l.getD k false then [] else [(k : Int)])) := fun k => by
    rw [lft_next, zl, List.map_append]
    congr 1
    cases x.l.getD k false <;> simp
  have LN : Hid (∀ k, (zl (lft x.l k)).length ≤ k) := fun k => by rw [zl_len]; exact lft_len _ _
  have Z0 : Hid (zl (lft x.l 0) = []) := rfl
  clear h4 h3 h1 h2
  simp only [Bd.v]
  generalize x.a = xa at *
  generalize x.c = xc at *
  obtain ⟨Z, hZ⟩ : ∃ Z : Nat → Bool, Z = fun i => x.l.getD i false := ⟨_, rfl⟩
  have HC : Hid (∀ i, i < x.l.length → w.cell? ⟨b, o + i, none⟩ = some (.bool (Z i))) := by rw [hZ]; exact HC.out
  have NX : Hid (∀ k, zl (lft x.l (k + 1)) = zl (lft x.l k) ++ (if Z k then [] else [(k : Int)])) := by rw [hZ]; exact NX.out
  obtain ⟨G, hG⟩ : ∃ G : Nat → List Int, G = fun k => zl (lft x.l k) := ⟨_, rfl⟩
  have NX : Hid (∀ k, G (k + 1) = G k ++ (if Z k then [] else [(k : Int)])) := by rw [hG]; exact NX.out
  have LN : Hid (∀ k, (G k).length ≤ k) := by rw [hG]; exact LN.out
  have Z0 : Hid (G 0 = []) := by rw [hG]; exact Z0.out
  have FI : Hid (∀ W v, OwnN w W v (G x.l.length) → OwnN w W v (zl (lft x.l x.l.length))) := fun W v h => by rw [hG] at h; exact h
  clear hG hZ
  generalize lft x.l x.l.length = FF at *
  generalize x.l.length = n at *
  go_enter Try.func21, Try.ntmps21
  go_wp2
  go_loopg [3, 4, 5, 8] n (fun gg s3 _ _ s8 wr => ∃ k : Nat, k ≤ n ∧ n - k ≤ gg ∧ s8 = .int .i64 k ∧ Aside (OwnN w wr s3 (G k)))
  case atStart => exact ⟨0, by omega, by omega, rfl, by rw [Z0.out]; exact OwnN.nil (Ext.refl w)⟩
  case round =>
    obtain ⟨k, hk, hgg, rfl, O⟩ := hrel
    by_cases hlt : k < n
    · have hltz : (k : Int) < (n : Int) := by omega
      obtain rfl := HA.out (by omega)
      have hc := O.out.1.cell (HC.out k hlt)
      have nx := NX.out k
      have ln := LN.out k
      cases hq : Z k
      · rw [hq] at hc nx
        rw [if_neg (by decide)] at nx
        have O2 : Hid (OwnN w wr u3 (G k)) := O.out
        obtain ⟨a, c, hv⟩ := O.out.form
        subst hv
        have NX2 : Hid (G (k + 1) = G k ++ [(k : Int)]) := nx
        have LZ : Hid ((G k).length + 1 ≤ 1000000) := by rw [Hid]; omega
        clear O nx hq LN NX HC
        generalize hzz : G k = z at *
        clear hzz ln
        obtain ⟨zn, hzn⟩ : ∃ zn, z.length = zn := ⟨_, rfl⟩
        rw [hzn] at O2 ⊢
        go_wp2_with (at_builtin; refine wpList_appendNum rfl _ _ rfl w _ (.slice a zn c) rfl z O2.out _ rfl (by have := LZ.out; omega) ?_; intro v2 w2 O3)
        have O4 : Hid (OwnN w w2 v2 (G (k + 1))) := by rw [NX2.out]; exact O3
        clear O3 O2
        go_wp2
        go_roundg (n - (k + 1))
        case measure => omega
        case rel => exact ⟨k + 1, by omega, by omega, by go_num, O4.out⟩
      · rw [hq] at hc nx
        rw [if_pos rfl, List.append_nil] at nx
        have O2 : Hid (OwnN w wr u3 (G (k + 1))) := by rw [Hid, nx]; exact O.out
        clear O nx hq ln
        go_wp2
        go_roundg (n - (k + 1))
        case measure => omega
        case rel => exact ⟨k + 1, by omega, by omega, by go_num, O2.out⟩
    · obtain rfl : k = n := by omega
      have O2 := FI.out _ _ O.out
      go_wp2
      go_ret
      exact ⟨_, rfl, O2⟩

end Go.Proofs.Ytjdipgkdaloclaa
