/-
  quipuref.place: where a text lies among some; the first one.
-/
import Derived.Test.YtjgheojfdkfmkaaEq
namespace Go.Proofs.Ytjgheojfdkfmkaa
open Go.RowKit

/-- The place of a text among some. -/
def plc (K : List (List Int)) (t : List Int) : Int := if t ∈ K then ((K.idxOf t : Nat) : Int) else -1

theorem idxOf_first : ∀ (K : List (List Int)) (t : List Int) (k : Nat), K[k]? = some t → (∀ i, i < k → K[i]? ≠ some t) → K.idxOf t = k
  | [], t, k, h, _ => by simp at h
  | x :: K, t, 0, h, _ => by
    simp at h
    subst h
    simp
  | x :: K, t, k + 1, h, h' => by
    have hx : x ≠ t := fun e => h' 0 (by omega) (by simp [e])
    have := idxOf_first K t k (by simpa using h) (fun i hi => by simpa using h' (i + 1) (by omega))
    have hx' : (x == t) = false := beq_eq_false_iff_ne.2 hx
    simp [List.idxOf_cons, hx', this]

theorem plc_at {K : List (List Int)} {t : List Int} {k : Nat} (hk : K[k]? = some t) (h' : ∀ i, i < k → K[i]? ≠ some t) : plc K t = (k : Int) := by
  unfold plc
  rw [if_pos (List.mem_of_getElem? hk), idxOf_first K t k hk h']

theorem plc_none {K : List (List Int)} {t : List Int} (h' : ∀ i, i < K.length → K[i]? ≠ some t) : plc K t = -1 := by
  unfold plc
  rw [if_neg]
  intro h
  obtain ⟨i, hi, e⟩ := List.getElem_of_mem h
  exact h' i hi (by rw [List.getElem?_eq_getElem hi, e])

set_option maxHeartbeats 2000000 in
theorem place_any (a : Option Addr) (c : Nat) (g : List Wd) (y : Wd) (w : World) (hg : Wds w a c g) (hy : Bits w y) :
    Calls Try.prog 13 #[.slice a g.length c, y.v] w fun e w' => e = .returned (.int .i64 (plc (g.map (·.l)) y.l)) ∧ Qt w w' := by
  obtain ⟨h1, h2, h3, b, o, h4, h5⟩ := hg
  obtain ⟨ya, yc, yl⟩ := y
  have HY : Hid (Bits w ⟨ya, yc, yl⟩) := hy
  have H3 : Hid (∀ x ∈ g, Bits w x) := h3
  obtain ⟨n, hn⟩ : ∃ n, g.length = n := ⟨_, rfl⟩
  have HN : Hid (g.length = n) := hn
  have d0 : ∀ i, i < n → ∃ x : Wd, g[i]? = some x ∧ w.cell? ⟨b, o + i, none⟩ = some x.v := fun i hi => ⟨g[i]'(by omega), List.getElem?_eq_getElem _, h5 i (by omega)⟩
  simp only [Wd.v]
  rw [hn] at h1 h4 ⊢
  obtain ⟨yn, hyn⟩ : ∃ yn, yl.length = yn := ⟨_, rfl⟩
  have HYN : Hid (Value.slice ya yn yc = Wd.v ⟨ya, yc, yl⟩) := by show _ = _; rw [Wd.v, hyn]
  rw [hyn]
  unfold maxLen at h2
  clear h5 h3 hn hyn hy
  go_enter Try.func13, Try.ntmps13
  go_wp2
  go_loopg [5, 6, 9] n (fun gg _ _ s wr => ∃ k : Nat, k ≤ n ∧ n - k ≤ gg ∧ s = .int .i64 k ∧ Aside (Qt w wr) ∧ Aside (∀ i, i < k → (g.map (·.l))[i]? ≠ some yl))
  case atStart => exact ⟨0, Nat.zero_le _, by omega, rfl, Qt.refl w, fun j hj => absurd hj (Nat.not_lt_zero _)⟩
  case round =>
    obtain ⟨k, hk, hg, rfl, BW, A⟩ := hrel
    by_cases hlt : k < n
    · have hltz : (k : Int) < (n : Int) := by omega
      obtain rfl := h4 (by omega)
      obtain ⟨x, hxk, e1⟩ := d0 k hlt
      have e1 := BW.out.cell e1
      clear h4 d0
      have hb := bytes_any x ⟨ya, yc, yl⟩ wr ((H3.out x (List.mem_of_getElem? hxk)).ext BW.out.ext) (HY.out.ext BW.out.ext)
      rw [← HYN.out] at hb
      simp only at hb
      have KX : Hid ((g.map (·.l))[k]? = some x.l) := by show _ = _; rw [List.getElem?_map, hxk]; rfl
      clear hxk
      obtain ⟨xa, xc, xl⟩ := x
      simp only [Wd.v] at e1 hb KX
      generalize xl.length = xn at *
      cases hq : (xl == yl)
      · rw [hq] at hb
        have A' : Aside (∀ i, i < k + 1 → (g.map (·.l))[i]? ≠ some yl) := fun i hi => by
          rcases Nat.lt_succ_iff_lt_or_eq.1 hi with h' | rfl
          · exact A.out i h'
          · rw [KX.out]
            intro h
            injection h with h
            subst h
            simp at hq
        clear A KX hq
        go_wp2_with fail
        refine hb.mono ?_
        rintro e w1 ⟨rfl, hw1⟩
        have HW1 : Hid (Qt wr w1) := hw1
        clear hb hw1
        go_wp2
        go_roundg (n - (k + 1))
        case measure => omega
        case rel => exact ⟨k + 1, by omega, by omega, by go_num, BW.out.trans HW1.out, A'.out⟩
      · rw [hq] at hb
        have fin : Hid (plc (g.map (·.l)) yl = (k : Int)) := plc_at (by rw [KX.out, beq_iff_eq.1 hq]) A.out
        clear A KX hq
        go_wp2_with fail
        refine hb.mono ?_
        rintro e w1 ⟨rfl, hw1⟩
        have HW1 : Hid (Qt wr w1) := hw1
        clear hb hw1
        go_wp2
        go_ret
        exact ⟨ret_int fin.out.symm, BW.out.trans HW1.out⟩
    · have fin : Hid (plc (g.map (·.l)) yl = -1) := plc_none (fun i hi => A.out i (by have := HN.out; simp at hi; omega))
      go_wp2
      go_ret
      exact ⟨ret_int fin.out.symm, BW.out⟩

end Go.Proofs.Ytjgheojfdkfmkaa
