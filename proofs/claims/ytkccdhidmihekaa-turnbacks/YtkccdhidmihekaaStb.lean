/-
  slices.SortStableFunc over the numbers below n: they are sorted by what the function given compares, those alike in their order.
-/
import Derived.Test.YtkccdhidmihekaaSy2
namespace Go.Proofs.Ytkccdhidmihekaa
open Go.RowKit

theorem sym_all (w0 : World) (B c n f : Nat) (lb : Array Value) (key : Int → Int) (S : List Int) (hB : w0.heap.size ≤ B) (hn2 : n ≤ 1000)
    (eg : ∀ args w, (callFunc f args).run Try.prog w = .ok (.enter f args) w) (hc : CmpOn w0 f lb key S) : ∀ k, SymC w0 B c n f lb key S k
  | 0 => fun w P X Y R a m b _ _ _ _ _ _ _ _ h1 _ h2 _ _ _ => by omega
  | k + 1 => fun w P X Y R a m b hE hr hXS hYS hn ha hm hb h1 h2 hk hX hY hl => by
    have IH := sym_all w0 B c n f lb key S hB hn2 eg hc k
    by_cases hx1 : X.length = 1
    · obtain ⟨x, rfl⟩ := List.length_eq_one_iff.1 hx1
      exact sym_left w0 w B c n a m b f lb key P Y R S x hE (by simpa using hr) (hXS x (by simp)) hYS (by simpa using hn) hn2 ha (by simpa using hm) hb hY hl eg hc
    · by_cases hy1 : Y.length = 1
      · obtain ⟨y, rfl⟩ := List.length_eq_one_iff.1 hy1
        exact sym_right w0 w B c n a m b f lb key P X R S y hE (by simpa using hr) (hYS y (by simp)) hXS (by simpa using hn) hn2 ha hm (by simpa using hb) hx1 hX hl eg hc
      · exact sym_gen w0 B c n f k lb key S hB hn2 eg hc IH w P X Y R a m b hE hr hXS hYS hn ha hm hb (by omega) (by omega) hk hX hY hl

/-- What the first pass has done: parts of twenty up to a, each number at its own place behind it. -/
structure In1 (key : Int → Int) (l : List Int) (n a : Nat) : Prop where
  len : l.length = n
  perm : l.Perm (upI n)
  at_ : ∃ j, a = j * 20
  done : ∀ k, (k + 1) * 20 ≤ a → Run key l (k * 20) ((k + 1) * 20)
  rest : ∀ i, a ≤ i → i < n → l.getD i 0 = (i : Int)

theorem In1.start (key : Int → Int) (n : Nat) : In1 key (upI n) n 0 :=
  ⟨upI_length n, List.Perm.refl _, ⟨0, rfl⟩, fun k hk => by omega, fun i _ hi => by
    have : i < (upI n).length := by rw [upI_length]; exact hi
    rw [List.getD_eq_getElem?_getD, List.getElem?_eq_getElem this, Option.getD_some, upI_at]⟩

theorem In1.prt {key : Int → Int} {l : List Int} {n a b : Nat} (h : In1 key l n a) (hb : b ≤ n) : (part l a b).Pairwise (· < ·) ∧ (∀ x ∈ part l a b, x ∈ upI n) ∧ ∀ x ∈ part l a b, (a : Int) ≤ x ∧ x < (b : Int) := by
  have hl := h.len
  have e : ∀ i, (hi : i < (part l a b).length) → (part l a b)[i] = ((a + i : Nat) : Int) := by
    intro i hi
    rw [part_at (by omega)]
    rw [part_length (by omega)] at hi
    have := h.rest (a + i) (by omega) (by omega)
    simpa [List.getD_eq_getElem?_getD, show a + i < l.length by omega] using this
  refine ⟨?_, ?_, ?_⟩
  · rw [List.pairwise_iff_getElem]
    intro i j hi hj hij
    rw [e i hi, e j hj]
    omega
  · intro x hx
    obtain ⟨i, hi, rfl⟩ := List.getElem_of_mem hx
    rw [e i hi, mem_upI]
    rw [part_length (by omega)] at hi
    omega
  · intro x hx
    obtain ⟨i, hi, rfl⟩ := List.getElem_of_mem hx
    rw [e i hi]
    rw [part_length (by omega)] at hi
    omega

theorem remade {key : Int → Int} {l Z : List Int} {n a b : Nat} (hl : l.length = n) (hpm : l.Perm (upI n)) (hb : b ≤ n) (hab : a ≤ b) (hp : Z.Perm (part l a b)) (hz : Z.Pairwise (LexI key)) (ho : ∀ x ∈ part l a b, (a : Int) ≤ x ∧ x < (b : Int)) :
    (l.take a ++ Z ++ l.drop b).length = n ∧ (l.take a ++ Z ++ l.drop b).Perm (upI n) ∧ Run key (l.take a ++ Z ++ l.drop b) a b ∧
      ∀ i, i < a ∨ b ≤ i → (l.take a ++ Z ++ l.drop b).getD i 0 = l.getD i 0 := by
  have hpl : (l.take a).length = a := by rw [List.length_take]; omega
  have hzl : Z.length = b - a := by rw [hp.length_eq, part_length (by omega)]
  have hperm : (l.take a ++ Z ++ l.drop b).Perm l := by
    have h5 : (l.take a ++ Z ++ l.drop b).Perm (l.take a ++ part l a b ++ l.drop b) := (List.Perm.append_left _ hp).append_right _
    exact h5.trans (List.Perm.of_eq (split3 hab).symm)
  refine ⟨by rw [hperm.length_eq]; exact hl, hperm.trans hpm, Run.made hpl (by omega) hz (fun x hx => ho x (hp.subset hx)), fun i hi => ?_⟩
  have h6 := getD_elsewhere (P := l.take a) (Z := part l a b) (Z' := Z) (R := l.drop b) (by rw [part_length (by omega), hzl]) (i := i) (by rw [hpl, part_length (by omega)]; omega)
  rw [h6, ← split3 hab]

theorem In1.next {key : Int → Int} {l l' : List Int} {n a : Nat} (h : In1 key l n a) (hl : l'.length = n) (hp : l'.Perm (upI n)) (hr : Run key l' a (a + 20)) (he : ∀ i, i < a ∨ a + 20 ≤ i → l'.getD i 0 = l.getD i 0) : In1 key l' n (a + 20) := by
  obtain ⟨j, hj⟩ := h.at_
  refine ⟨hl, hp, ⟨j + 1, by omega⟩, fun k hk => ?_, fun i h1 h2 => by rw [he i (.inr h1)]; exact h.rest i (by omega) h2⟩
  by_cases hkj : (k + 1) * 20 ≤ a
  · exact (h.done k hkj).same (by rw [h.len, hl]) (fun i _ _ => he i (.inl (by omega)))
  · have : k = j := by omega
    subst this
    rw [show k * 20 = a by omega, show (k + 1) * 20 = a + 20 by omega]
    exact hr

theorem In1.last {key : Int → Int} {l l' : List Int} {n a : Nat} (h : In1 key l n a) (ha : a ≤ n) (hb : ¬ a + 20 ≤ n) (hl : l'.length = n) (hp : l'.Perm (upI n)) (hr : Run key l' a n) (he : ∀ i, i < a ∨ n ≤ i → l'.getD i 0 = l.getD i 0) : Parts key l' n 20 := by
  obtain ⟨j, hj⟩ := h.at_
  refine ⟨hl, hp, by omega, fun k hk => ?_⟩
  by_cases hkj : (k + 1) * 20 ≤ a
  · rw [Nat.min_eq_left (by omega)]
    exact (h.done k hkj).same (by rw [h.len, hl]) (fun i _ _ => he i (.inl (by omega)))
  · have : k = j := by omega
    subst this
    rw [show k * 20 = a by omega, Nat.min_eq_right (by omega)]
    exact hr

/-- Sorted. -/
def Done (key : Int → Int) (w : World) (B n : Nat) : Prop := ∃ l, Row w B 3 (iv l) ∧ l.Perm (upI n) ∧ l.Pairwise (LexI key)
def StI (key : Int → Int) (w : World) (B n a : Nat) : Prop := ∃ l, Row w B 3 (iv l) ∧ In1 key l n a
def StP (key : Int → Int) (w : World) (B n s : Nat) : Prop := ∃ l, Row w B 3 (iv l) ∧ Parts key l n s
def StC (key : Int → Int) (w : World) (B n s a : Nat) : Prop := ∃ l, Row w B 3 (iv l) ∧ Ch key l n s a

theorem ins_step (w0 W : World) (B c n f a b : Nat) (lb : Array Value) (key : Int → Int) (hB : w0.heap.size ≤ B) (hn2 : n ≤ 1000) (eg : ∀ args w, (callFunc f args).run Try.prog w = .ok (.enter f args) w) (hc : CmpOn w0 f lb key (upI n))
    (hE : Ext w0 W) (h : StI key W B n a) (hab : a ≤ b) (hb : b ≤ n) :
    Calls Try.prog 42 #[.slice (some ⟨B, 0, none⟩) n c, .int .i64 a, .int .i64 b, .func (.func f) #[] lb] W
      fun e w' => e = .returned (.tuple #[]) ∧ Hid ((b = a + 20 → StI key w' B n b) ∧ (b = n → ¬ a + 20 ≤ n → StP key w' B n 20)) ∧ Hid (KB B W w') := by
  obtain ⟨l, hr, hi⟩ := h
  have hl := hi.len
  obtain ⟨p1, p2, p3⟩ := hi.prt (b := b) hb
  have e3 := split3 (l := l) hab
  have hpl : (l.take a).length = a := by rw [List.length_take]; omega
  refine (insertion_any w0 W B c n a b f lb key (l.take a) (part l a b) (l.drop b) (upI n) hB hE (by rw [← List.append_assoc, ← e3]; exact hr) p1 p2 (by rw [← List.append_assoc, ← e3]; exact hl) hn2 hpl (by rw [hpl, part_length (by omega)]; omega) eg hc).mono ?_
  rintro e w' ⟨rfl, r1, r2⟩
  obtain ⟨Z, z1, z2, z3⟩ := r1.out
  obtain ⟨q1, q2, q3, q4⟩ := remade hl hi.perm hb hab z2 z3 p3
  rw [← List.append_assoc] at z1
  refine ⟨rfl, ⟨fun e => ?_, fun e h2 => ?_⟩, r2⟩
  · subst e
    exact ⟨_, z1, hi.next q1 q2 q3 q4⟩
  · subst e
    exact ⟨_, z1, hi.last hab h2 q1 q2 q3 q4⟩

theorem mrg_step (w0 W : World) (B c n f s a b : Nat) (lb : Array Value) (key : Int → Int) (hB : w0.heap.size ≤ B) (hn2 : n ≤ 1000) (eg : ∀ args w, (callFunc f args).run Try.prog w = .ok (.enter f args) w) (hc : CmpOn w0 f lb key (upI n))
    (hE : Ext w0 W) (h : StC key W B n s a) (hb : b = min (a + 2 * s) n) (ha : a + s < b) :
    Calls Try.prog 43 #[.slice (some ⟨B, 0, none⟩) n c, .int .i64 a, .int .i64 (a + s : Nat), .int .i64 b, .func (.func f) #[] lb] W
      fun e w' => e = .returned (.tuple #[]) ∧ Hid ((a + 2 * s ≤ n → StC key w' B n s (a + 2 * s)) ∧ (¬ a + 2 * s ≤ n → StP key w' B n (2 * s))) ∧ Hid (KB B W w') := by
  obtain ⟨l, hr, hi⟩ := h
  have hl := hi.len
  have e4 := split4 (l := l) (a := a) (m := a + s) (b := b) (by omega) (by omega)
  have hpl : (l.take a).length = a := by rw [List.length_take]; omega
  obtain ⟨j, hj⟩ := hi.at_
  have hs := hi.hs
  have e1 : (2 * j) * s = a := by rw [hj, Nat.mul_comm 2 j, Nat.mul_assoc]
  have e2 : (2 * j + 1) * s = a + s := by rw [Nat.add_mul, e1, Nat.one_mul]
  have e3 : (2 * j + 1 + 1) * s = a + 2 * s := by rw [Nat.add_mul, e2, Nat.one_mul]; omega
  have r1 := hi.todo (2 * j) (by omega) (by omega)
  have r2 := hi.todo (2 * j + 1) (by omega) (by omega)
  rw [e2, e1] at r1
  rw [e3, e2] at r2
  rw [Nat.min_eq_left (by omega)] at r1
  rw [← hb] at r2
  have o1 := r1.part (by omega)
  have o2 := r2.part (by omega)
  have lx : (part l a (a + s)).length = s := by rw [part_length (by omega)]; omega
  have ly : (part l (a + s) b).length = b - (a + s) := part_length (by omega)
  have mem : ∀ x ∈ l, x ∈ upI n := fun x hx => hi.perm.subset hx
  have sub : ∀ p q x, x ∈ part l p q → x ∈ l := fun p q x hx => List.mem_of_mem_take (List.mem_of_mem_drop hx)
  have hr2 : l = l.take a ++ (part l a (a + s) ++ (part l (a + s) b ++ l.drop b)) := by
    rw [← List.append_assoc, ← List.append_assoc]; exact e4
  refine (sym_all w0 B c n f lb key (upI n) hB hn2 eg hc n W (l.take a) (part l a (a + s)) (part l (a + s) b) (l.drop b) a (a + s) b hE (by rw [← hr2]; exact hr) (fun x hx => mem x (sub _ _ x hx)) (fun x hx => mem x (sub _ _ x hx)) (by rw [← hr2]; exact hl) hpl (by omega) (by omega) (by omega) (by omega) (by omega) o1.1 o2.1 (fun x hx y hy => by
    have := o1.2 x hx
    have := o2.2 y hy
    omega)).mono ?_
  rintro e w' ⟨rfl, m1, m2⟩
  obtain ⟨Z, z1, z2, z3⟩ := m1.out
  obtain ⟨q1, q2, q3, q4⟩ := hi.merge hb ha z2 z3
  rw [← List.append_assoc] at z1
  refine ⟨rfl, ⟨fun e => ?_, fun e => ?_⟩, m2⟩
  · rw [Nat.min_eq_left e] at hb
    subst hb
    exact ⟨_, z1, hi.next q1 q2 q3 q4⟩
  · rw [Nat.min_eq_right (by omega)] at hb
    subst hb
    exact ⟨_, z1, hi.last e q1 q2 (fun _ => q3) (fun i hi => q4 i (.inl hi))⟩

set_option maxRecDepth 100000 in
set_option maxHeartbeats 4000000 in
theorem stable_any (w0 w : World) (B c n f : Nat) (lb : Array Value) (key : Int → Int) (hB : w0.heap.size ≤ B) (hE : Ext w0 w) (hr : Row w B 3 (iv (upI n))) (hn : n ≤ 64)
    (eg : ∀ args w, (callFunc f args).run Try.prog w = .ok (.enter f args) w) (hc : CmpOn w0 f lb key (upI n)) :
    Calls Try.prog 41 #[.slice (some ⟨B, 0, none⟩) n c, .int .i64 n, .func (.func f) #[] lb] w
      fun e w' => e = .returned (.tuple #[]) ∧ Hid (Done key w' B n) ∧ Hid (KB B w w') := by
  have HI : Hid (∀ (W : World) (a b : Nat), KB B w W → StI key W B n a → a ≤ b → b ≤ n → Calls Try.prog 42 #[.slice (some ⟨B, 0, none⟩) n c, .int .i64 a, .int .i64 b, .func (.func f) #[] lb] W
      fun e w' => e = .returned (.tuple #[]) ∧ Hid ((b = a + 20 → StI key w' B n b) ∧ (b = n → ¬ a + 20 ≤ n → StP key w' B n 20)) ∧ Hid (KB B W w')) :=
    fun W a b hW h h1 h2 => ins_step w0 W B c n f a b lb key hB (by omega) eg hc (hW.ext hE hB) h h1 h2
  have HM : Hid (∀ (W : World) (s a m b : Nat), KB B w W → StC key W B n s a → m = a + s → b = min (a + 2 * s) n → a + s < b → Calls Try.prog 43 #[.slice (some ⟨B, 0, none⟩) n c, .int .i64 a, .int .i64 m, .int .i64 b, .func (.func f) #[] lb] W
      fun e w' => e = .returned (.tuple #[]) ∧ Hid ((a + 2 * s ≤ n → StC key w' B n s (a + 2 * s)) ∧ (¬ a + 2 * s ≤ n → StP key w' B n (2 * s))) ∧ Hid (KB B W w')) :=
    fun W s a m b hW h e h1 h2 => by subst e; exact mrg_step w0 W B c n f s a b lb key hB (by omega) eg hc (hW.ext hE hB) h h1 h2
  have S0 : Hid (StI key w B n 0) := ⟨_, hr, In1.start key n⟩
  clear hr hc hE hB
  go_enter Try.func41, Try.ntmps41
  go_wp2
  go_loopg [7, 8] n (fun gg s7 s8 wr => ∃ a b : Nat, b = a + 20 ∧ a ≤ n ∧ n - a ≤ gg ∧ s7 = .int .i64 a ∧ s8 = .int .i64 b ∧ Aside (StI key wr B n a) ∧ Aside (KB B w wr))
  case atStart => exact ⟨0, 20, by omega, by omega, by omega, rfl, rfl, S0.out, KB.refl _ _⟩
  case round =>
    obtain ⟨a, b, hab, ha, hgg, rfl, rfl, A, BK⟩ := hrel
    clear S0
    by_cases hlt : b ≤ n
    · have hltz : (b : Int) ≤ (n : Int) := by omega
      have C := HI.out wr a b BK.out A.out (by omega) hlt
      have HAB : Hid (b = a + 20) := hab
      have hb2 : a < b := by omega
      clear HI HM A hab
      go_wp2_with (go_at_call 42; refine C.mono ?_; rintro e w1 ⟨rfl, r1, k1⟩)
      have r2 : Hid (StI key w1 B n b) := r1.out.1 HAB.out
      clear r1 C
      go_roundg (n - b)
      case measure => omega
      case rel => exact ⟨b, b + 20, rfl, hlt, by omega, rfl, by go_num, r2.out, BK.out.trans k1.out⟩
    · have C := HI.out wr a n BK.out A.out (by omega) (Nat.le_refl _)
      have HAB : Hid (¬ a + 20 ≤ n) := by show ¬ _; omega
      clear HI A hab
      go_wp2_with (go_at_call 42; refine C.mono ?_; rintro e w1 ⟨rfl, r1, k1⟩)
      have r2 : Hid (StP key w1 B n 20) := r1.out.2 (by simp) HAB.out
      have K1 : Hid (KB B w w1) := BK.out.trans k1.out
      clear r1 C k1 BK HAB hlt hgg ha
      go_loopg [6, 7, 8, 9] n (fun gg s6 _ _ _ wr => ∃ s : Nat, 20 ≤ s ∧ s ≤ 128 ∧ n - s ≤ gg ∧ s6 = .int .i64 s ∧ Aside (StP key wr B n s) ∧ Aside (KB B w wr))
      case atStart => exact ⟨20, by omega, by omega, by omega, rfl, r2.out, K1.out⟩
      case round =>
        obtain ⟨s, hs, hs2, hgg, rfl, A, BK⟩ := hrel
        clear r2 K1
        by_cases hlt : s < n
        · have hltz : (s : Int) < (n : Int) := by omega
          have C0 : Hid (StC key wr B n s 0) := by
            obtain ⟨l, h1, h2⟩ := A.out
            exact ⟨l, h1, h2.start⟩
          clear A
          go_wp2
          go_loopg [7, 8] n (fun gg s7 s8 wr => ∃ a b : Nat, b = a + 2 * s ∧ a ≤ n ∧ n - a ≤ gg ∧ s7 = .int .i64 a ∧ s8 = .int .i64 b ∧ Aside (StC key wr B n s a) ∧ Aside (KB B w wr))
          case atStart => exact ⟨0, 2 * s, by omega, by omega, by omega, rfl, by go_num, C0.out, BK.out⟩
          case round =>
            obtain ⟨a, b, hab, ha, hgg2, rfl, rfl, A, BK2⟩ := hrel
            clear C0 BK
            by_cases hlt2 : b ≤ n
            · have hltz2 : (b : Int) ≤ (n : Int) := by omega
              obtain ⟨m, hm⟩ : ∃ m : Nat, (a : Int) + (s : Int) = (m : Int) := ⟨a + s, by omega⟩
              have C := HM.out wr s a m b BK2.out A.out (by omega) (by omega) (by omega)
              have HAB : Hid (b = a + 2 * s) := hab
              have hb2 : a < b := by omega
              clear HM A hab
              go_wp2_with (go_at_call 43; refine C.mono ?_; rintro e w1 ⟨rfl, r1, k1⟩)
              have r2 : Hid (StC key w1 B n s b) := by
                have := r1.out.1 (by rw [← HAB.out]; exact hlt2)
                rw [← HAB.out] at this
                exact this
              clear r1 C
              go_roundg (n - b)
              case measure => omega
              case rel => exact ⟨b, b + 2 * s, rfl, hlt2, by omega, rfl, by go_num, r2.out, BK2.out.trans k1.out⟩
            · have hltz2 : ¬ (b : Int) ≤ (n : Int) := by omega
              obtain ⟨m, hm⟩ : ∃ m : Nat, (a : Int) + (s : Int) = (m : Int) := ⟨a + s, by omega⟩
              have HAB : Hid (¬ a + 2 * s ≤ n) := by show ¬ _; omega
              by_cases hmn : m < n
              · have hmz : (m : Int) < (n : Int) := by omega
                have C := HM.out wr s a m n BK2.out A.out (by omega) (by omega) (by omega)
                clear HM A hab
                go_wp2_with (go_at_call 43; refine C.mono ?_; rintro e w1 ⟨rfl, r1, k1⟩)
                have r2 : Hid (StP key w1 B n (2 * s)) := r1.out.2 HAB.out
                clear r1 C
                go_roundg (n - 2 * s)
                case measure => omega
                case rel => exact ⟨2 * s, by omega, by omega, by omega, by go_num, r2.out, BK2.out.trans k1.out⟩
              · have hmz : ¬ (m : Int) < (n : Int) := by omega
                have r2 : Hid (StP key wr B n (2 * s)) := by
                  obtain ⟨l, h1, h2⟩ := A.out
                  exact ⟨l, h1, h2.last HAB.out h2.len h2.perm (fun h => h2.rest (by omega) h) (fun _ _ => rfl)⟩
                clear HM A hab
                go_wp2
                go_roundg (n - 2 * s)
                case measure => omega
                case rel => exact ⟨2 * s, by omega, by omega, by omega, by go_num, r2.out, BK2.out⟩
        · have F : Hid (Done key wr B n) := by
            obtain ⟨l, h1, h2⟩ := A.out
            obtain ⟨h3, h4⟩ := h2.all (by omega)
            exact ⟨l, h1, h3, h4⟩
          clear A HM
          go_wp2
          go_end0
          exact ⟨rfl, F, BK.out⟩

set_option maxHeartbeats 2000000 in
theorem sortStable_any (w0 w : World) (B c n f : Nat) (lb : Array Value) (key : Int → Int) (hB : w0.heap.size ≤ B) (hE : Ext w0 w) (hr : Row w B 3 (iv (upI n))) (hn : n ≤ 64)
    (eg : ∀ args w, (callFunc f args).run Try.prog w = .ok (.enter f args) w) (hc : CmpOn w0 f lb key (upI n)) :
    Calls Try.prog 38 #[.slice (some ⟨B, 0, none⟩) n c, .func (.func f) #[] lb] w
      fun e w' => e = .returned (.tuple #[]) ∧ Hid (Done key w' B n) ∧ Hid (KB B w w') := by
  have H := stable_any w0 w B c n f lb key hB hE hr hn eg hc
  clear hE hr eg hc hn
  go_enter Try.func38, Try.ntmps38
  go_wp2_with fail
  refine H.mono ?_
  rintro e w1 ⟨rfl, hP, hK⟩
  go_wp2
  go_end0
  exact ⟨rfl, hP, hK⟩

end Go.Proofs.Ytkccdhidmihekaa
