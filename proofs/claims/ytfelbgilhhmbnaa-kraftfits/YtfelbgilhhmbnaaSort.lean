/-
  slices.SortStableFunc over few numbers: they are sorted by what the function given compares, those alike in their order.
-/
import Derived.Test.YtfelbgilhhmbnaaOwn
import Derived.RegionTactic
import Derived.Shelf.Abstract
namespace Go.Proofs.Ytfelbgilhhmbnaa
open Go.RowKit

/-- What cmp.Compare answers. -/
def cmpI (x y : Int) : Int := if x < y then -1 else if y < x then 1 else 0
theorem cmpI_lt {x y : Int} (h : x < y) : cmpI x y = -1 := by simp [cmpI, h]
theorem cmpI_gt {x y : Int} (h : y < x) : cmpI x y = 1 := by
  unfold cmpI; rw [if_neg (by omega), if_pos h]
theorem cmpI_eq {x y : Int} (h : x = y) : cmpI x y = 0 := by
  unfold cmpI; rw [if_neg (by omega), if_neg (by omega)]
theorem cmpI_neg {x y : Int} : cmpI x y < 0 ↔ x < y := by
  unfold cmpI
  split
  · simp [*]
  · split <;> simp [*] <;> omega

set_option maxHeartbeats 400000 in
theorem isNaN_any (x : Int) (w : World) : Calls Try.prog 43 #[.int .i64 x] w fun e w' => e = .returned (.bool false) ∧ w' = w := by
  go_enter Try.func43, Try.ntmps43
  go_wp2
  go_ret
  exact ⟨ret_bool (by simp), rfl⟩

set_option maxHeartbeats 400000 in
theorem compare_any (x y : Int) (w : World) : Calls Try.prog 41 #[.int .i64 x, .int .i64 y] w fun e w' => e = .returned (.int .i64 (cmpI x y)) ∧ w' = w := by
  have H : ∀ z W, Calls Try.prog 43 #[.int .i64 z] W fun e w' => e = .returned (.bool false) ∧ w' = W := fun z W => isNaN_any z W
  have HH : Hid (∀ z W, Calls Try.prog 43 #[.int .i64 z] W fun e w' => e = .returned (.bool false) ∧ w' = W) := H
  clear H
  rcases Int.lt_trichotomy x y with h | h | h
  · rw [cmpI_lt h]
    go_enter Try.func41, Try.ntmps41
    go_wp2_with (go_at_call 43; refine (HH.out _ _).mono ?_; rintro e w' ⟨rfl, rfl⟩)
    go_ret
    exact ⟨rfl, rfl⟩
  · rw [cmpI_eq h]
    subst h
    go_enter Try.func41, Try.ntmps41
    go_wp2_with (go_at_call 43; refine (HH.out _ _).mono ?_; rintro e w' ⟨rfl, rfl⟩)
    go_ret
    exact ⟨rfl, rfl⟩
  · rw [cmpI_gt h]
    have h2 : ¬ x < y := by omega
    go_enter Try.func41, Try.ntmps41
    go_wp2_with (go_at_call 43; refine (HH.out _ _).mono ?_; rintro e w' ⟨rfl, rfl⟩)
    go_ret
    exact ⟨rfl, rfl⟩

/-- A function value that compares what key says of numbers of S, and only reads, in whatever has come since w0. -/
def CmpOn (w0 : World) (f : Nat) (lb : Array Value) (key : Int → Int) (S : List Int) : Prop :=
  ∀ (W : World) (x y : Int), x ∈ S → y ∈ S → Ext w0 W → Calls Try.prog f (#[.int .i64 x, .int .i64 y] ++ lb) W fun e w' => e = .returned (.int .i64 (cmpI (key x) (key y))) ∧ Qt W w'

/-- Who comes first. -/
def LexI (key : Int → Int) (x y : Int) : Prop := key x < key y ∨ (key x = key y ∧ x < y)

abbrev iv (z : List Int) : List Value := z.map (Value.int .i64)

theorem Row.mid {w : World} {B : Nat} {p t : List Int} {x : Int} (h : Row w B 3 (iv (p ++ x :: t))) : w.cell? ⟨B, p.length, none⟩ = some (.int .i64 x) := by
  have := h.cell p.length (by simp)
  simpa using this

theorem Row.swapped {w : World} {B : Nat} {p t : List Int} {x y : Int} (h : Row w B 3 (iv (p ++ y :: x :: t))) :
    Row ((w.setCell ⟨B, p.length + 1, none⟩ (.int .i64 y)).setCell ⟨B, p.length, none⟩ (.int .i64 x)) B 3 (iv (p ++ x :: y :: t)) := by
  have := (h.set (p.length + 1) (.int .i64 y)).set p.length (.int .i64 x)
  have e : ((iv (p ++ y :: x :: t)).set (p.length + 1) (.int .i64 y)).set p.length (.int .i64 x) = iv (p ++ x :: y :: t) := by
    simp
  rw [e] at this
  exact this

/-- While x seeks its place: what is ahead of it, and what it has passed. -/
structure Seek (key : Int → Int) (l : List Int) (i : Nat) (x : Int) (p q : List Int) : Prop where
  perm : (p ++ q).Perm (l.take i)
  sort : (p ++ q).Pairwise (LexI key)
  past : ∀ y ∈ q, key x < key y
  at_ : l[i]? = some x

theorem Seek.step {key : Int → Int} {l : List Int} {i : Nat} {x y : Int} {p q : List Int} (h : Seek key l i x (p ++ [y]) q) (hy : key x < key y) : Seek key l i x p (y :: q) :=
  ⟨by simpa using h.perm, by simpa using h.sort, fun z hz => by rcases List.mem_cons.1 hz with rfl | hz; exact hy; exact h.past z hz, h.at_⟩

theorem Seek.done {key : Int → Int} {l : List Int} {i : Nat} {x : Int} {p q : List Int} (h : Seek key l i x p q) (hinc : l.Pairwise (· < ·)) (hp : ∀ u ∈ p, key u ≤ key x) :
    (p ++ x :: q).Perm (l.take (i + 1)) ∧ (p ++ x :: q).Pairwise (LexI key) := by
  obtain ⟨hi, hx⟩ := List.getElem?_eq_some_iff.1 h.at_
  constructor
  · rw [List.take_succ_eq_append_getElem hi, hx]
    refine List.perm_middle.trans ?_
    exact (h.perm.cons x).trans (List.perm_append_singleton x _).symm
  · have hs := h.sort
    rw [List.pairwise_append] at hs ⊢
    refine ⟨hs.1, ?_, ?_⟩
    · rw [List.pairwise_cons]
      exact ⟨fun y hy => .inl (h.past y hy), hs.2.1⟩
    · intro u hu v hv
      rcases List.mem_cons.1 hv with rfl | hv
      · rcases Int.lt_or_le (key u) (key v) with h1 | h1
        · exact .inl h1
        · refine .inr ⟨by have := hp u hu; omega, ?_⟩
          have hul : u ∈ l.take i := h.perm.subset (by simp [hu])
          rw [List.mem_iff_getElem] at hul
          obtain ⟨j, hj, rfl⟩ := hul
          rw [← hx]
          simp only [List.getElem_take]
          exact List.pairwise_iff_getElem.1 hinc j i _ hi (by simp at hj; omega)
      · exact hs.2.2 u hu v hv

theorem last_le {key : Int → Int} {p q : List Int} {x y : Int} (hs : (p ++ [y] ++ q).Pairwise (LexI key)) (hy : ¬ key x < key y) : ∀ u ∈ p ++ [y], key u ≤ key x := by
  intro u hu
  rcases List.mem_append.1 hu with hu | hu
  · rw [List.append_assoc, List.pairwise_append] at hs
    rcases hs.2.2 u hu y (by simp) with h | h <;> omega
  · simp at hu
    subst hu
    omega

set_option maxHeartbeats 2000000 in
theorem insertion_any (w0 w : World) (B c f : Nat) (lb : Array Value) (key : Int → Int) (l : List Int) (hB : w0.heap.size ≤ B) (hE : Ext w0 w) (hr : Row w B 3 (iv l)) (hinc : l.Pairwise (· < ·)) (hlen : l.length ≤ 9223372036854775807)
    (eg : ∀ args w, (callFunc f args).run Try.prog w = .ok (.enter f args) w) (hc : CmpOn w0 f lb key l) :
    Calls Try.prog 44 #[.slice (some ⟨B, 0, none⟩) l.length c, .int .i64 0, .int .i64 l.length, .func (.func f) #[] lb] w
      fun e w' => e = .returned (.tuple #[]) ∧ ∃ l', Row w' B 3 (iv l') ∧ l'.Perm l ∧ l'.Pairwise (LexI key) ∧ Ext w0 w' := by
  obtain ⟨n, hn⟩ : ∃ n, l.length = n := ⟨_, rfl⟩
  have HN : Hid (l.length = n) := hn
  have HI : Hid (l.Pairwise (· < ·)) := hinc
  have HC : Hid (CmpOn w0 f lb key l) := hc
  rw [hn] at hlen ⊢
  have st : Hid (∃ s, Row w B 3 (iv (s ++ l.drop 1)) ∧ s.Perm (l.take 1) ∧ s.Pairwise (LexI key)) := by
    refine ⟨l.take 1, by rw [List.take_append_drop]; exact hr, List.Perm.refl _, ?_⟩
    cases l with
    | nil => simp
    | cons a r => simp
  have HE : Hid (Ext w0 w) := hE
  clear hn hinc hc hr hE
  go_enter Try.func44, Try.ntmps44
  go_wp2
  go_loopg [8, 9] n (fun gg s _ wr => ∃ i : Nat, 1 ≤ i ∧ i ≤ n + 1 ∧ n - i ≤ gg ∧ s = .int .i64 i ∧ Aside (Ext w0 wr) ∧ Aside (∃ s, Row wr B 3 (iv (s ++ l.drop i)) ∧ s.Perm (l.take i) ∧ s.Pairwise (LexI key)))
  case atStart => exact ⟨1, by omega, by omega, by omega, rfl, HE.out, st.out⟩
  case round =>
    obtain ⟨i, hi1, hi2, hgg, rfl, BW, A⟩ := hrel
    by_cases hlt : i < n
    · have hltz : (i : Int) < (n : Int) := by omega
      have hil : i < l.length := by rw [HN.out]; exact hlt
      obtain ⟨x, hx⟩ : ∃ x, l[i] = x := ⟨_, rfl⟩
      have HX : Hid (l[i]? = some x) := by show _ = _; rw [List.getElem?_eq_getElem hil, hx]
      have st2 : Hid (∃ p q, p.length = i ∧ Row wr B 3 (iv (p ++ x :: (q ++ l.drop (i + 1)))) ∧ Seek key l i x p q) := by
        obtain ⟨s, h1, h2, h3⟩ := A.out
        refine ⟨s, [], ?_, ?_, ?_⟩
        · rw [h2.length_eq, List.length_take]; omega
        · rw [List.drop_eq_getElem_cons hil, hx] at h1
          exact h1
        · exact ⟨by simpa using h2, by simpa using h3, fun y hy => absurd hy (by simp), HX.out⟩
      clear hx A
      go_wp2
      go_loopg [9] i (fun gg s wi => ∃ j : Nat, j ≤ i ∧ j ≤ gg ∧ s = .int .i64 j ∧ Aside (Ext w0 wi) ∧ Aside (∃ p q, p.length = j ∧ Row wi B 3 (iv (p ++ x :: (q ++ l.drop (i + 1)))) ∧ Seek key l i x p q))
      case atStart => exact ⟨i, Nat.le_refl _, Nat.le_refl _, rfl, BW.out, st2.out⟩
      case round =>
        obtain ⟨j, hj1, hj2, rfl, BW2, A2⟩ := hrel
        cases j with
        | zero =>
          have nx : Hid (∃ s, Row wr B 3 (iv (s ++ l.drop (i + 1))) ∧ s.Perm (l.take (i + 1)) ∧ s.Pairwise (LexI key)) := by
            obtain ⟨p, q, h1, h2, h3⟩ := A2.out
            have : p = [] := List.eq_nil_of_length_eq_zero h1
            subst this
            obtain ⟨h4, h5⟩ := h3.done HI.out (fun u hu => absurd hu (by simp))
            exact ⟨_, by simpa using h2, h4, h5⟩
          go_wp2
          go_quiet (fail)
          go_wp2
          go_roundg (n - (i + 1))
          case measure => omega
          case rel => exact ⟨i + 1, by omega, by omega, by omega, by go_num, BW2.out.trans (Qt.ext ⟨_, rfl⟩), by
            obtain ⟨s, h1, h2, h3⟩ := nx.out
            exact ⟨s, h1.ext (Qt.ext ⟨_, rfl⟩), h2, h3⟩⟩
        | succ j =>
          obtain ⟨p, q, h1, h2, h3⟩ := A2.out
          obtain ⟨p', y, rfl⟩ : ∃ p' y, p = p' ++ [y] := ⟨p.dropLast, p.getLast (by intro h; rw [h] at h1; simp at h1), (List.dropLast_concat_getLast _).symm⟩
          have hpl : p'.length = j := by simpa using h1
          subst hpl
          have h2' : Row wr B 3 (iv (p' ++ y :: (x :: (q ++ l.drop (i + 1))))) := by simpa using h2
          have e1 : wr.cell? ⟨B, p'.length + 1, none⟩ = some (.int .i64 x) := by simpa using h2.mid
          have e2 : wr.cell? ⟨B, p'.length, none⟩ = some (.int .i64 y) := h2'.mid
          have f1 := h2.fr (p'.length + 1)
          have f2 := h2.fr p'.length
          have hxl : x ∈ l := List.mem_of_getElem? HX.out
          have hyl : y ∈ l := List.mem_of_mem_take (h3.perm.subset (by simp))
          have hc : Hid (∀ W, Qt wr W → Calls Try.prog f (#[.int .i64 x, .int .i64 y] ++ lb) W fun e w' => e = .returned (.int .i64 (cmpI (key x) (key y))) ∧ ∃ m, w' = W.drewN m) := fun W hq => HC.out W x y hxl hyl (BW2.out.trans hq.ext)
          by_cases hk : key x < key y
          · have sw : ∀ W, Qt wr W → Row ((W.setCell ⟨B, p'.length + 1, none⟩ (.int .i64 y)).setCell ⟨B, p'.length, none⟩ (.int .i64 x)) B 3 (iv (p' ++ x :: y :: (q ++ l.drop (i + 1)))) := fun W hq => (h2'.ext hq.ext).swapped
            have nx : Hid (Seek key l i x p' (y :: q)) := h3.step hk
            have SW : Hid (∀ W, Qt wr W → Row ((W.setCell ⟨B, p'.length + 1, none⟩ (.int .i64 y)).setCell ⟨B, p'.length, none⟩ (.int .i64 x)) B 3 (iv (p' ++ x :: y :: (q ++ l.drop (i + 1))))) := sw
            rw [cmpI_lt hk] at hc
            clear A2 h1 h2 h2' h3 hxl hyl hk sw
            generalize hj : p'.length = j at *
            have HJ : Hid (p'.length = j) := hj
            clear hj
            have b1 : (j : Int) + 1 < (n : Int) := by omega
            have b0 : (j : Int) < (n : Int) := by omega
            go_wp2
            go_quiet ((go_at_fn f; exact Calls.quiet_of (hc.out _ ⟨_, rfl⟩)))
            go_wp2
            go_region
            go_wp2
            go_roundg j
            case measure => omega
            case rel => exact ⟨j, by omega, by omega, rfl, ((BW2.out.trans (Qt.ext ⟨_, rfl⟩)).setCell hB _).setCell hB _, p', y :: q, HJ.out, SW.out _ ⟨_, rfl⟩, nx.out⟩
          · have nx : Hid (∃ s, Row wr B 3 (iv (s ++ l.drop (i + 1))) ∧ s.Perm (l.take (i + 1)) ∧ s.Pairwise (LexI key)) := by
              obtain ⟨h4, h5⟩ := h3.done HI.out (last_le (by simpa using h3.sort) hk)
              exact ⟨_, by simpa using h2, h4, h5⟩
            have hcn : ¬ cmpI (key x) (key y) < 0 := by rw [cmpI_neg]; exact hk
            generalize cmpI (key x) (key y) = r at hc hcn
            clear A2 h1 h2 h2' h3 hxl hyl hk f1 f2
            generalize p'.length = j at *
            have b1 : (j : Int) + 1 < (n : Int) := by omega
            have b0 : (j : Int) < (n : Int) := by omega
            go_wp2
            go_quiet ((go_at_fn f; exact Calls.quiet_of (hc.out _ ⟨_, rfl⟩)))
            go_wp2
            go_roundg (n - (i + 1))
            case measure => omega
            case rel => exact ⟨i + 1, by omega, by omega, by omega, by go_num, BW2.out.trans (Qt.ext ⟨_, rfl⟩), by
              obtain ⟨s, h1, h2, h3⟩ := nx.out
              exact ⟨s, h1.ext (Qt.ext ⟨_, rfl⟩), h2, h3⟩⟩
    · have fin : Hid (∃ s, Row wr B 3 (iv s) ∧ s.Perm l ∧ s.Pairwise (LexI key)) := by
        obtain ⟨s, h1, h2, h3⟩ := A.out
        have := HN.out
        rw [List.drop_eq_nil_of_le (by omega), List.append_nil] at h1
        rw [List.take_of_length_le (by omega)] at h2
        exact ⟨s, h1, h2, h3⟩
      clear A
      go_wp2
      go_end0
      exact ⟨rfl, by
        obtain ⟨s, h1, h2, h3⟩ := fin.out
        exact ⟨s, h1, h2, h3, BW.out⟩⟩

end Go.Proofs.Ytfelbgilhhmbnaa
