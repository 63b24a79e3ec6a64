/-
  turn.sortedTurns: the turns in order, each told by how many changes it takes.
-/
import Derived.Test.YtkccdhidmihekaaSo
import Derived.Test.YtkccdhidmihekaaBw2
import Derived.Test.YtkccdhidmihekaaCat
namespace Go.Proofs.Ytkccdhidmihekaa
open Go.RowKit

theorem u8_lt {x y : Int} (hx : x ∈ a256) (hy : y ∈ a256) : UInt8.ofNat x.toNat < UInt8.ofNat y.toNat ↔ x < y := by
  have h1 := mem_a256.1 hx
  have h2 := mem_a256.1 hy
  rw [UInt8.lt_iff_toNat_lt]
  simp only [UInt8.toNat_ofNat']
  rw [Nat.mod_eq_of_lt (by omega), Nat.mod_eq_of_lt (by omega)]
  omega

theorem cmpB_ah : ∀ {u v : List Int}, InB u → InB v → Lib.compareBytes (Lib.bytesOf u) (Lib.bytesOf v) = (if ah u v then -1 else if ah v u then 1 else 0)
  | [], [], _, _ => by simp [Lib.bytesOf, Lib.compareBytes, ah]
  | [], _ :: _, _, _ => by simp [Lib.bytesOf, Lib.compareBytes, ah]
  | _ :: _, [], _, _ => by simp [Lib.bytesOf, Lib.compareBytes, ah]
  | a :: u, b :: v, hu, hv => by
    have ih := cmpB_ah (u := u) (v := v) (fun x hx => hu x (by simp [hx])) (fun x hx => hv x (by simp [hx]))
    have ha := hu a (by simp)
    have hb := hv b (by simp)
    show Lib.compareBytes (UInt8.ofNat a.toNat :: Lib.bytesOf u) (UInt8.ofNat b.toNat :: Lib.bytesOf v) = _
    rw [Lib.compareBytes, ih, ah, ah]
    rcases Int.lt_trichotomy a b with h | h | h
    · rw [if_pos ((u8_lt ha hb).2 h), if_neg (by omega : ¬ a = b)]
      simp [h]
    · subst h
      rw [if_neg (UInt8.lt_irrefl _), if_neg (UInt8.lt_irrefl _), if_pos rfl, if_pos rfl]
    · rw [if_neg (fun h5 => by have := (u8_lt ha hb).1 h5; omega), if_pos ((u8_lt hb ha).2 h), if_neg (by omega : ¬ a = b), if_neg (by omega : ¬ b = a)]
      have : ¬ a < b := by omega
      simp [h, this]

theorem inB_rot {t : List Int} (h : InB t) (i : Nat) : InB (rot t i) := by
  intro x hx
  unfold rot at hx
  rcases List.mem_append.1 hx with hx | hx
  · exact h x (List.mem_of_mem_drop hx)
  · exact h x (List.mem_of_mem_take hx)

theorem cmp_turns {t : List Int} (h : InB t) {i j : Nat} (hi : i < t.length) (hj : j < t.length) : Lib.compareBytes (Lib.bytesOf (rot t i)) (Lib.bytesOf (rot t j)) = cmpI (ky t (i : Int)) (ky t (j : Int)) := by
  rw [cmpB_ah (inB_rot h i) (inB_rot h j)]
  rcases ah_tri (rot t i) (rot t j) with h1 | h1 | h1
  · rw [h1, ah_irrefl, cmpI_eq (ky_eq_of h1)]
    simp
  · rw [h1, cmpI_lt (ky_lt_of hi h1)]
    simp
  · rw [ah_asymm h1, h1, cmpI_gt (ky_lt_of hj h1)]
    simp

theorem twice_part {t : List Int} {i : Nat} (hi : i ≤ t.length) : ((t ++ t).drop i).take t.length = rot t i := by
  unfold rot
  rw [List.drop_append_of_le_length hi, List.take_append, List.length_drop, List.take_of_length_le (by rw [List.length_drop]; omega)]
  congr 2
  omega

/-- A part of a word. -/
theorem Bits.sub {w : World} {b o c : Nat} {l : List Int} (h : Bits w ⟨some ⟨b, o, none⟩, c, l⟩) {i n : Nat} (hin : i + n ≤ l.length) (hic : i < c) : Bits w ⟨some ⟨b, o + i, none⟩, c - i, (l.drop i).take n⟩ := by
  obtain ⟨h1, h2, h0, b', o', h3, h4⟩ := h
  simp only at h1 h2 h3 h4
  have hlen : ((l.drop i).take n).length = n := by rw [List.length_take, List.length_drop]; omega
  refine ⟨by simp only [hlen]; omega, by simp only; omega, by simp, b, o + i, fun _ => rfl, fun k hk => ?_⟩
  simp only [hlen] at hk
  have e := h3 (by omega)
  injection e with e
  injection e with e1 e2
  subst e1 e2
  have := h4 (i + k) (by omega)
  rw [Nat.add_assoc, this]
  simp [List.getD_eq_getElem?_getD, hk]

set_option maxHeartbeats 2000000 in
theorem closure31_any (Bt Bs b o c n : Nat) (t : List Int) (w : World) (ht : w.cell? ⟨Bt, 0, none⟩ = some (.slice (some ⟨b, o, none⟩) (n + n) c)) (hs : w.cell? ⟨Bs, 0, none⟩ = some (.int .i64 n)) (hb : Bits w ⟨some ⟨b, o, none⟩, c, t ++ t⟩) (hn : t.length = n) (hn2 : n ≤ 64) (hin : InB t)
    (i j : Nat) (hi : i < n) (hj : j < n) :
    Calls Try.prog 31 #[.int .i64 i, .int .i64 j, .pointer (some ⟨Bt, 0, none⟩), .pointer (some ⟨Bs, 0, none⟩)] w fun e w' => e = .returned (.int .i64 (cmpI (ky t (i : Int)) (ky t (j : Int)))) ∧ Qt w w' := by
  have hlen : (t ++ t).length = n + n := by rw [List.length_append, hn]
  have hc1 := hb.1
  have hc2 := hb.2.1
  simp only [hlen] at hc1 hc2
  unfold maxLen at hc2
  have hcm := cmp_turns hin (i := i) (j := j) (by omega) (by omega)
  have b1 : Bits w ⟨some ⟨b, o + i, none⟩, c - i, rot t i⟩ := by
    have := hb.sub (i := i) (n := t.length) (by omega) (by omega)
    rw [twice_part (by omega)] at this
    exact this
  have b2 : Bits w ⟨some ⟨b, o + j, none⟩, c - j, rot t j⟩ := by
    have := hb.sub (i := j) (n := t.length) (by omega) (by omega)
    rw [twice_part (by omega)] at this
    exact this
  have HC : Hid (∀ W, Qt w W → Calls Try.prog 32 #[.slice (some ⟨b, o + i, none⟩) n (c - i), .slice (some ⟨b, o + j, none⟩) n (c - j)] W fun e w' => e = .returned (.int .i64 (cmpI (ky t (i : Int)) (ky t (j : Int)))) ∧ w' = W) := by
    intro W hW
    have := bytesCompare_any ⟨some ⟨b, o + i, none⟩, c - i, rot t i⟩ ⟨some ⟨b, o + j, none⟩, c - j, rot t j⟩ W (b1.ext hW.ext) (b2.ext hW.ext)
    simp only [Wd.v] at this
    rw [rot_length, rot_length, hn, hcm] at this
    exact this
  generalize cmpI (ky t (i : Int)) (ky t (j : Int)) = r at *
  clear b1 b2 hb hcm hlen hin hn
  have h1 : (i : Int) + (n : Int) ≤ (c : Int) := by omega
  have h2 : (j : Int) + (n : Int) ≤ (c : Int) := by omega
  have h3 : ¬ c = i := by omega
  have h4 : ¬ c = j := by omega
  go_enter Try.func31, Try.ntmps31
  go_wp2
  go_quiet ((go_at_call 32; exact Calls.quiet_of_same (HC.out _ ⟨_, rfl⟩)))
  go_wp2
  go_ret
  exact ⟨rfl, _, rfl⟩

end Go.Proofs.Ytkccdhidmihekaa
