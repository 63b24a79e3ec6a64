/-
  slices.insertionSortCmpFunc over a part of a list of numbers.
-/
import Derived.Test.YtkccdhidmihekaaSwp
import Derived.Test.YtkccdhidmihekaaSrt
import Derived.Shelf.Abstract
namespace Go.Proofs.Ytkccdhidmihekaa
open Go.RowKit

theorem Row.swap2' {w : World} {B : Nat} {P M T : List Int} {u v : Int} (h : Row w B 3 (iv (P ++ u :: (M ++ v :: T)))) {i j : Nat} (hi : i = P.length) (hj : j = P.length + 1 + M.length) :
    Row ((w.setCell ⟨B, j, none⟩ (.int .i64 u)).setCell ⟨B, i, none⟩ (.int .i64 v)) B 3 (iv (P ++ v :: (M ++ u :: T))) := by
  have := (h.set j (.int .i64 u)).set i (.int .i64 v)
  have e1 : (iv (P ++ u :: (M ++ v :: T))).set j (.int .i64 u) = iv P ++ .int .i64 u :: iv (M ++ u :: T) := by
    have := set_midV (iv P ++ .int .i64 u :: iv M) (iv T) (.int .i64 v) (.int .i64 u) j (by simp [hj]; omega)
    simpa using this
  have e2 : (iv P ++ .int .i64 u :: iv (M ++ u :: T)).set i (.int .i64 v) = iv (P ++ v :: (M ++ u :: T)) := by
    have := set_midV (iv P) (iv (M ++ u :: T)) (.int .i64 u) (.int .i64 v) i (by simp [hi])
    simpa using this
  rw [e1, e2] at this
  exact this

/-- A function value that compares what key says of numbers of S, and only reads, in whatever has come since w0. -/
def CmpOn (w0 : World) (f : Nat) (lb : Array Value) (key : Int → Int) (S : List Int) : Prop :=
  ∀ (W : World) (x y : Int), x ∈ S → y ∈ S → Ext w0 W → Calls Try.prog f (#[.int .i64 x, .int .i64 y] ++ lb) W fun e w' => e = .returned (.int .i64 (cmpI (key x) (key y))) ∧ Qt W w'

/-- While x seeks its place: what is ahead of it, and what it has passed. -/
structure Seek (key : Int → Int) (l : List Int) (i : Nat) (x : Int) (p q : List Int) : Prop where
  perm : (p ++ q).Perm (l.take i)
  sort : (p ++ q).Pairwise (LexI key)
  past : ∀ y ∈ q, key x < key y
  at_ : l[i]? = some x

theorem Seek.step {key : Int → Int} {l : List Int} {i : Nat} {x y : Int} {p q : List Int} (h : Seek key l i x (p ++ [y]) q) (hy : key x < key y) : Seek key l i x p (y :: q) :=
  ⟨by simpa using h.perm, by simpa using h.sort, fun z hz => by rcases List.mem_cons.1 hz with rfl | hz; exact hy; exact h.past z hz, h.at_⟩

theorem Seek.done {key : Int → Int} {l : List Int} {i : Nat} {x : Int} {p q : List Int} (h : Seek key l i x p q) (hinc : l.Pairwise (· < ·)) (hp : ∀ u ∈ p, key u ≤ key x) :
    (p ++ x :: q).Perm (l.take (i + 1)) ∧ (p ++ x :: q).Pairwise (LexI key) := by
  obtain ⟨hi, hx⟩ := List.getElem?_eq_some_iff.1 h.at_
  constructor
  · rw [List.take_succ_eq_append_getElem hi, hx]
    refine List.perm_middle.trans ?_
    exact (h.perm.cons x).trans (List.perm_append_singleton x _).symm
  · have hs := h.sort
    rw [List.pairwise_append] at hs ⊢
    refine ⟨hs.1, ?_, ?_⟩
    · rw [List.pairwise_cons]
      exact ⟨fun y hy => .inl (h.past y hy), hs.2.1⟩
    · intro u hu v hv
      rcases List.mem_cons.1 hv with rfl | hv
      · rcases Int.lt_or_le (key u) (key v) with h1 | h1
        · exact .inl h1
        · refine .inr ⟨by have := hp u hu; omega, ?_⟩
          have hul : u ∈ l.take i := h.perm.subset (by simp [hu])
          rw [List.mem_iff_getElem] at hul
          obtain ⟨j, hj, rfl⟩ := hul
          rw [← hx]
          simp only [List.getElem_take]
          exact List.pairwise_iff_getElem.1 hinc j i _ hi (by simp at hj; omega)
      · exact hs.2.2 u hu v hv

theorem last_le {key : Int → Int} {p q : List Int} {x y : Int} (hs : (p ++ [y] ++ q).Pairwise (LexI key)) (hy : ¬ key x < key y) : ∀ u ∈ p ++ [y], key u ≤ key x := by
  intro u hu
  rcases List.mem_append.1 hu with hu | hu
  · rw [List.append_assoc, List.pairwise_append] at hs
    rcases hs.2.2 u hu y (by simp) with h | h <;> omega
  · simp at hu
    subst hu
    omega

set_option maxHeartbeats 4000000 in
theorem insertion_any (w0 w : World) (B c n a b f : Nat) (lb : Array Value) (key : Int → Int) (pre l post S : List Int) (hB : w0.heap.size ≤ B) (hE : Ext w0 w) (hr : Row w B 3 (iv (pre ++ (l ++ post)))) (hinc : l.Pairwise (· < ·)) (hS : ∀ x ∈ l, x ∈ S)
    (hn : (pre ++ (l ++ post)).length = n) (hn2 : n ≤ 1000) (ha : pre.length = a) (hb : pre.length + l.length = b)
    (eg : ∀ args w, (callFunc f args).run Try.prog w = .ok (.enter f args) w) (hc : CmpOn w0 f lb key S) :
    Calls Try.prog 42 #[.slice (some ⟨B, 0, none⟩) n c, .int .i64 a, .int .i64 b, .func (.func f) #[] lb] w
      fun e w' => e = .returned (.tuple #[]) ∧ Hid (∃ l', Row w' B 3 (iv (pre ++ (l' ++ post))) ∧ l'.Perm l ∧ l'.Pairwise (LexI key)) ∧ Hid (KB B w w') := by
  have HA : Hid (pre.length = a) := ha
  have HL : Hid (a + l.length = b) := by show _ = _; omega
  have HI : Hid (l.Pairwise (· < ·)) := hinc
  have HC : Hid (CmpOn w0 f lb key S) := hc
  have HS : Hid (∀ x ∈ l, x ∈ S) := hS
  have HE : Hid (Ext w0 w) := hE
  have st : Hid (∃ s, Row w B 3 (iv (pre ++ (s ++ (l.drop 1 ++ post)))) ∧ s.Perm (l.take 1) ∧ s.Pairwise (LexI key)) := by
    refine ⟨l.take 1, ?_, List.Perm.refl _, ?_⟩
    · rw [← List.append_assoc (l.take 1), List.take_append_drop]; exact hr
    · cases l with
      | nil => simp
      | cons a r => simp
  have hbn : b ≤ n := by simp at hn; omega
  have hab : a ≤ b := by have := HL.out; omega
  clear hinc hc hr hE hn ha hb hS
  have HG : Hid (∀ W, KB B w W → Ext w0 W) := fun W k => k.ext HE.out hB
  go_enter Try.func42, Try.ntmps42
  go_wp2
  go_loopg [8, 9] n (fun gg s _ wr => ∃ i : Nat, a + 1 ≤ i ∧ i ≤ b + 1 ∧ n - i ≤ gg ∧ s = .int .i64 i ∧ Aside (KB B w wr) ∧ Aside (∃ s, Row wr B 3 (iv (pre ++ (s ++ (l.drop (i - a) ++ post)))) ∧ s.Perm (l.take (i - a)) ∧ s.Pairwise (LexI key)))
  case atStart => exact ⟨a + 1, by omega, by omega, by omega, by go_num, KB.refl _ _, by rw [show a + 1 - a = 1 by omega]; exact st.out⟩
  case round =>
    obtain ⟨i, hi1, hi2, hgg, rfl, BW, A⟩ := hrel
    clear st
    by_cases hlt : i < b
    · have hltz : (i : Int) < (b : Int) := by omega
      have hil : i - a < l.length := by have := HL.out; omega
      obtain ⟨x, hx⟩ : ∃ x, l[i - a] = x := ⟨_, rfl⟩
      have HX : Hid (l[i - a]? = some x) := by show _ = _; rw [List.getElem?_eq_getElem hil, hx]
      have st2 : Hid (∃ p q, a + p.length = i ∧ Row wr B 3 (iv (pre ++ (p ++ x :: (q ++ (l.drop (i - a + 1) ++ post))))) ∧ Seek key l (i - a) x p q) := by
        obtain ⟨s, h1, h2, h3⟩ := A.out
        refine ⟨s, [], ?_, ?_, ?_⟩
        · rw [h2.length_eq, List.length_take]; omega
        · rw [List.drop_eq_getElem_cons hil, hx] at h1
          exact h1
        · exact ⟨by simpa using h2, by simpa using h3, fun y hy => absurd hy (by simp), HX.out⟩
      clear hx A
      go_wp2
      go_loopg [9] i (fun gg s wi => ∃ j : Nat, a ≤ j ∧ j ≤ i ∧ j ≤ gg ∧ s = .int .i64 j ∧ Aside (KB B w wi) ∧ Aside (∃ p q, a + p.length = j ∧ Row wi B 3 (iv (pre ++ (p ++ x :: (q ++ (l.drop (i - a + 1) ++ post))))) ∧ Seek key l (i - a) x p q))
      case atStart => exact ⟨i, by omega, Nat.le_refl _, Nat.le_refl _, rfl, BW.out, st2.out⟩
      case round =>
        obtain ⟨j, hj0, hj1, hj2, rfl, BW2, A2⟩ := hrel
        clear st2 BW
        by_cases hja : j = a
        · subst hja
          have nx : Hid (∃ s, Row wr B 3 (iv (pre ++ (s ++ (l.drop (i + 1 - j) ++ post)))) ∧ s.Perm (l.take (i + 1 - j)) ∧ s.Pairwise (LexI key)) := by
            obtain ⟨p, q, h1, h2, h3⟩ := A2.out
            have : p = [] := List.eq_nil_of_length_eq_zero (by omega)
            subst this
            obtain ⟨h4, h5⟩ := h3.done HI.out (fun u hu => absurd hu (by simp))
            rw [show i + 1 - j = i - j + 1 by omega]
            exact ⟨_, by simpa using h2, h4, h5⟩
          clear A2
          go_wp2
          go_quiet (fail)
          go_wp2
          go_roundg (n - (i + 1))
          case measure => omega
          case rel => exact ⟨i + 1, by omega, by omega, by omega, by go_num, BW2.out.trans (KB.of_ext (Qt.ext ⟨_, rfl⟩)), by
            obtain ⟨s, h1, h2, h3⟩ := nx.out
            exact ⟨s, h1.ext (Qt.ext ⟨_, rfl⟩), h2, h3⟩⟩
        · obtain ⟨p, q, h1, h2, h3⟩ := A2.out
          obtain ⟨p', y, rfl⟩ : ∃ p' y, p = p' ++ [y] := ⟨p.dropLast, p.getLast (by intro h; rw [h] at h1; simp at h1; omega), (List.dropLast_concat_getLast _).symm⟩
          obtain ⟨k, rfl⟩ : ∃ k, j = k + 1 := ⟨j - 1, by omega⟩
          have hpl : k = (pre ++ p').length := by
            rw [List.length_append, List.length_singleton] at h1
            rw [List.length_append, HA.out]
            omega
          have h2' : Row wr B 3 (iv ((pre ++ p') ++ y :: ([] ++ x :: (q ++ (l.drop (i - a + 1) ++ post))))) := by simpa using h2
          have h2'' : Row wr B 3 (iv ((pre ++ p' ++ [y]) ++ x :: (q ++ (l.drop (i - a + 1) ++ post)))) := by simpa using h2
          have e1 : wr.cell? ⟨B, k + 1, none⟩ = some (.int .i64 x) := h2''.at (by rw [List.length_append, ← hpl]; rfl)
          have e2 : wr.cell? ⟨B, k, none⟩ = some (.int .i64 y) := h2'.at hpl
          have f1 := h2.fr (k + 1)
          have f2 := h2.fr k
          have hxl : x ∈ S := HS.out _ (List.mem_of_getElem? HX.out)
          have hyl : y ∈ S := HS.out _ (List.mem_of_mem_take (h3.perm.subset (by simp)))
          have hc : Hid (∀ W, Qt wr W → Calls Try.prog f (#[.int .i64 x, .int .i64 y] ++ lb) W fun e w' => e = .returned (.int .i64 (cmpI (key x) (key y))) ∧ ∃ m, w' = W.drewN m) := fun W hq => HC.out W x y hxl hyl ((HG.out _ BW2.out).trans hq.ext)
          have hpz : (k : Int) + 1 > (a : Int) := by omega
          have b1 : (k : Int) + 1 < (n : Int) := by omega
          have b0 : (k : Int) < (n : Int) := by omega
          by_cases hk : key x < key y
          · have SW : Hid (∀ W, Qt wr W → Row ((W.setCell ⟨B, k + 1, none⟩ (.int .i64 y)).setCell ⟨B, k, none⟩ (.int .i64 x)) B 3 (iv (pre ++ (p' ++ x :: (y :: q ++ (l.drop (i - a + 1) ++ post)))))) := fun W hq => by
              have := (h2'.ext hq.ext).swap2' (i := k) (j := k + 1) hpl (by rw [← hpl]; rfl)
              simpa using this
            have nx : Hid (Seek key l (i - a) x p' (y :: q)) := h3.step hk
            have HP : Hid (a + p'.length = k) := by show _ = _; rw [List.length_append, HA.out] at hpl; omega
            rw [cmpI_lt hk] at hc
            clear A2 h1 h2 h2' h2'' h3 hxl hyl hk hpl
            go_wp2
            go_quiet ((go_at_fn f; exact Calls.quiet_of (hc.out _ ⟨_, rfl⟩)))
            go_wp2
            go_region
            go_wp2
            go_roundg k
            case measure => omega
            case rel => exact ⟨k, by omega, by omega, by omega, by go_num, ((BW2.out.trans (KB.of_ext (Qt.ext ⟨_, rfl⟩))).setCell _).setCell _, p', y :: q, HP.out, SW.out _ ⟨_, rfl⟩, nx.out⟩
          · have nx : Hid (∃ s, Row wr B 3 (iv (pre ++ (s ++ (l.drop (i + 1 - a) ++ post)))) ∧ s.Perm (l.take (i + 1 - a)) ∧ s.Pairwise (LexI key)) := by
              obtain ⟨h4, h5⟩ := h3.done HI.out (last_le (by simpa using h3.sort) hk)
              rw [show i + 1 - a = i - a + 1 by omega]
              exact ⟨_, by simpa using h2, h4, h5⟩
            have hcn : ¬ cmpI (key x) (key y) < 0 := by rw [cmpI_neg]; exact hk
            generalize cmpI (key x) (key y) = r at hc hcn
            clear A2 h1 h2 h2' h2'' h3 hxl hyl hk f1 f2 hpl
            go_wp2
            go_quiet ((go_at_fn f; exact Calls.quiet_of (hc.out _ ⟨_, rfl⟩)))
            go_wp2
            go_roundg (n - (i + 1))
            case measure => omega
            case rel => exact ⟨i + 1, by omega, by omega, by omega, by go_num, BW2.out.trans (KB.of_ext (Qt.ext ⟨_, rfl⟩)), by
              obtain ⟨s, h1, h2, h3⟩ := nx.out
              exact ⟨s, h1.ext (Qt.ext ⟨_, rfl⟩), h2, h3⟩⟩
    · have fin : Hid (∃ s, Row wr B 3 (iv (pre ++ (s ++ post))) ∧ s.Perm l ∧ s.Pairwise (LexI key)) := by
        obtain ⟨s, h1, h2, h3⟩ := A.out
        have := HL.out
        rw [List.drop_eq_nil_of_le (by omega), List.nil_append] at h1
        rw [List.take_of_length_le (by omega)] at h2
        exact ⟨s, h1, h2, h3⟩
      clear A
      go_wp2
      go_end0
      exact ⟨rfl, fin, BW.out⟩

end Go.Proofs.Ytkccdhidmihekaa
