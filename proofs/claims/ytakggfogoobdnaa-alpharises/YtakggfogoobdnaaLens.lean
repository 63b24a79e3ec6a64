/-
  What quipukeep.lens answers of a code; and Kraft's inequality, in plain mathematics.
-/
import Derived.Test.YtakggfogoobdnaaOwn
import Derived.Test.YtakggfogoobdnaaFree
import Derived.Test.YtakggfogoobdnaaSum
namespace Go.Proofs.Ytakggfogoobdnaa
open Go.RowKit

/-- The lengths of a code's words. -/
def lensOf (g : List Wd) : List Int := g.map (fun x => (x.l.length : Int))

theorem lensOf_take (g : List Wd) (k : Nat) (h : k < g.length) : lensOf (g.take (k + 1)) = lensOf (g.take k) ++ [(g[k].l.length : Int)] := by
  unfold lensOf
  rw [List.take_succ_eq_append_getElem h, List.map_append]
  rfl

set_option maxHeartbeats 1000000 in
theorem lens_any (a : Option Addr) (c : Nat) (g : List Wd) (w : World) (hg : Wds w a c g) (hb : g.length * 8 ≤ 140737488355328) :
    Calls Try.prog 21 #[.slice a g.length c] w fun e w' => (∃ x : Nm, e = .returned x.v ∧ x.z = lensOf g ∧ Nums w' x) ∧ Ext w w' := by
  obtain ⟨h1, h2, _, b, o, h4, h5⟩ := hg
  obtain ⟨n, hn⟩ : ∃ n, g.length = n := ⟨_, rfl⟩
  have HN : Hid (g.length = n) := hn
  have H5 : Hid (∀ i (h : i < g.length), w.cell? ⟨b, o + i, none⟩ = some (g[i].v)) := h5
  unfold maxLen at h2
  rw [hn] at h1 h4 hb ⊢
  clear hn h5
  go_enter Try.func21, Try.ntmps21
  go_wp2
  go_loopg [3, 5, 8] n (fun gg v _ s wr => ∃ k : Nat, k ≤ n ∧ n - k ≤ gg ∧ s = .int .i64 k ∧ Aside (OwnN w wr v (lensOf (g.take k))))
  case atStart => exact ⟨0, Nat.zero_le _, by omega, rfl, OwnN.nil (Ext.refl w)⟩
  case round =>
    obtain ⟨k, hk, hgg, rfl, A⟩ := hrel
    by_cases hlt : k < n
    · have hltz : (k : Int) < (n : Int) := by omega
      obtain rfl := h4 (by omega)
      have hkl : k < g.length := by rw [HN.out]; exact hlt
      have e1 := A.out.1.cell (H5.out k hkl)
      have nx : Hid (lensOf (g.take (k + 1)) = lensOf (g.take k) ++ [(g[k].l.length : Int)]) := lensOf_take g k hkl
      have le : Hid (((lensOf (g.take k)).length + 1) * 8 ≤ 140737488355328) := by
        show _ ≤ _
        simp only [lensOf, List.length_map, List.length_take]
        have := HN.out
        omega
      generalize g[k] = y at e1 nx
      obtain ⟨ya, yc, yl⟩ := y
      simp only [Wd.v] at e1 nx
      generalize yl.length = q at e1 nx
      clear h4
      go_wp2_with (at_builtin; refine wpList_appendNum rfl _ _ rfl w wr _ (by rfl) _ A.out q (by rfl) le.out ?_; intro v' w1 B)
      have B' : Hid (OwnN w w1 v' (lensOf (g.take (k + 1)))) := by show OwnN w w1 v' _; rw [nx.out]; exact B
      clear B
      go_wp2
      go_roundg (n - (k + 1))
      case measure => omega
      case rel => exact ⟨k + 1, by omega, by omega, by go_num, B'.out⟩
    · obtain ⟨x, hx, hl, hb'⟩ := A.out.nums
      have E : Hid (Ext w wr) := A.out.1
      have HL : Hid (x.z = lensOf g) := by
        have := HN.out
        rw [List.take_of_length_le (by omega)] at hl
        exact hl
      have HB : Hid (Nums wr x) := hb'
      subst hx
      clear A hl hb'
      go_wp2
      go_ret
      exact ⟨⟨x, rfl, HL.out, HB.out⟩, E.out⟩

/-- The words that open with a bit, without it. -/
def tails (b : Bool) (g : List (List Bool)) : List (List Bool) := g.filterMap (fun w => match w with | [] => none | c :: t => if c = b then some t else none)

/-- The room of words, of so many bits. -/
def room (L : Nat) (g : List (List Bool)) : Nat := (g.map (fun w => 2 ^ (L - w.length))).sum

theorem room_split (L : Nat) : ∀ g : List (List Bool), (∀ w ∈ g, w ≠ []) → room (L + 1) g = room L (tails false g) + room L (tails true g)
  | [], _ => by simp [room, tails]
  | [] :: r, h => absurd rfl (h [] (by simp))
  | (c :: t) :: r, h => by
    have ih := room_split L r (fun w hw => h w (by simp [hw]))
    have e : L + 1 - (t.length + 1) = L - t.length := by omega
    cases c <;> simp [room, tails, e] at ih ⊢ <;> omega

theorem tails_mem {b : Bool} {g : List (List Bool)} {t : List Bool} (h : t ∈ tails b g) : b :: t ∈ g := by
  obtain ⟨w, hw, he⟩ := List.mem_filterMap.1 h
  cases w with
  | nil => simp at he
  | cons c r =>
    simp at he
    obtain ⟨rfl, rfl⟩ := he
    exact hw

theorem clash_cons (b : Bool) (x y : List Bool) : clash (b :: x) (b :: y) = clash x y := by simp [clash, List.isPrefixOf]

theorem tails_free {b : Bool} {g : List (List Bool)} (h : g.Pairwise fun x y => clash x y = false) : (tails b g).Pairwise fun x y => clash x y = false := by
  unfold tails
  refine List.Pairwise.filterMap _ ?_ h
  intro x y hxy u hu v hv
  cases x with
  | nil => simp at hu
  | cons c r =>
    cases y with
    | nil => simp at hv
    | cons d s =>
      simp at hu hv
      obtain ⟨rfl, rfl⟩ := hu
      obtain ⟨rfl, rfl⟩ := hv
      rw [clash_cons] at hxy
      exact hxy

theorem clash_nil (y : List Bool) : clash [] y = true := by simp [clash, List.isPrefixOf]
theorem clash_nil' (y : List Bool) : clash y [] = true := by rw [clash_comm]; exact clash_nil y

theorem one_of_nil {g : List (List Bool)} (h : g.Pairwise fun x y => clash x y = false) (hn : [] ∈ g) : g = [[]] := by
  cases g with
  | nil => simp at hn
  | cons a r =>
    rw [List.pairwise_cons] at h
    cases r with
    | nil => simp at hn; rw [← hn]
    | cons b s =>
      exfalso
      rcases List.mem_cons.1 hn with rfl | hn'
      · have := h.1 b (by simp)
        rw [clash_nil] at this
        cases this
      · have := h.1 [] hn'
        rw [clash_nil'] at this
        cases this

/-- KRAFT: words of which none begins another one take no more room than there is. -/
theorem kraft : ∀ (L : Nat) (g : List (List Bool)), (∀ w ∈ g, w.length ≤ L) → (g.Pairwise fun x y => clash x y = false) → room L g ≤ 2 ^ L
  | L, g, hl, hp => by
    by_cases hn : [] ∈ g
    · rw [one_of_nil hp hn]
      simp [room]
    · cases L with
      | zero =>
        have : g = [] := by
          cases g with
          | nil => rfl
          | cons a r =>
            exfalso
            have := hl a (by simp)
            exact hn (by rw [List.eq_nil_of_length_eq_zero (by omega : a.length = 0)]; simp)
        rw [this]
        simp [room]
      | succ L =>
        rw [room_split L g (fun w hw h => hn (h ▸ hw))]
        have h1 := kraft L (tails false g) (fun w hw => by have := hl _ (tails_mem hw); simpa using this) (tails_free hp)
        have h2 := kraft L (tails true g) (fun w hw => by have := hl _ (tails_mem hw); simpa using this) (tails_free hp)
        rw [Nat.pow_succ]
        omega

theorem ksum_lens (g : List Wd) : ksum (lensOf g) = room 8 (g.map (·.l)) := by
  unfold ksum lensOf room shr
  simp [Function.comp_def]

theorem kraft_le {g : List Wd} (h8 : erl g = 0) (hf : free g = true) : ksum (lensOf g) ≤ 256 := by
  rw [ksum_lens]
  refine kraft 8 _ ?_ ?_
  · intro w hw
    obtain ⟨x, hx, rfl⟩ := List.mem_map.1 hw
    rcases Nat.lt_or_ge 8 x.l.length with h | h
    · have := erl_word hx h
      omega
    · exact h
  · rw [List.pairwise_map]
    simpa [free] using hf

theorem ksum_pos : ∀ z : List Int, z ≠ [] → 0 < ksum z
  | [], h => absurd rfl h
  | a :: r, _ => by
    have : 0 < shr a := Nat.pow_pos (by omega)
    simp only [ksum, List.map_cons, List.sum_cons]
    omega

theorem lerl_lens {g : List Wd} (h : erl g = 0) : lerl (lensOf g) = 0 := by
  have hl : g.length ≤ 8 := by
    rcases Nat.lt_or_ge 8 g.length with h' | h'
    · rw [erl_long h'] at h; omega
    · exact h'
  refine lerl_ok (by simpa [lensOf] using hl) (List.any_eq_false.2 ?_)
  intro x hx
  obtain ⟨y, hy, rfl⟩ := List.mem_map.1 hx
  rcases Nat.lt_or_ge 8 y.l.length with h' | h'
  · rw [erl_word hy h'] at h; omega
  · simp [outB]; omega

end Go.Proofs.Ytakggfogoobdnaa
