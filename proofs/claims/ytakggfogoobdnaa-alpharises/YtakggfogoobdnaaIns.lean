/-
  slices.insertionSortCmpFunc, stableCmpFunc and SortStableFunc over fewer than twenty trees.
-/
import Derived.Test.YtakggfogoobdnaaSort
import Derived.BigQuiet
namespace Go.Proofs.Ytakggfogoobdnaa
open Go.RowKit

/-- A region that draws its order, walked once, where all that it makes lies behind what there was: the worlds that may come are a family. -/
theorem wp_region_fam {P : Program} {ι : Type} (g : ι → World) {id : Nat} {Q : Exit → Act → World → Prop} {a : Act} {w : World} {l : List Oper} (hm : P.follows .mixedOrders = true) (hB : Region.lexB .any l.toArray = true)
    (hC : ∃ n, ({ w with drawn := w.drawn + 1 } : World) = g n)
    (h : wpQuiet P l.toArray (fun w' => ∃ n, w' = g n) (fun a' => ∀ w', (∃ n, w' = g n) → Q .normal a' w') l a) : (Code.region id l.toArray true).wp P Q a w :=
  wp_region_quiet (C := fun w' => ∃ n, w' = g n) hm hB hC (by simpa using h)

theorem ext_drew (w : World) : Ext w w.drew := (Ext.refl w).drewN 1

theorem ext_fam (w : World) : ∃ (ι : Type) (_ : Nonempty ι) (g : ι → World), (∀ i, Ext w (g i)) ∧ ∀ W, Ext w W → ∃ i, W = g i :=
  ⟨{W // Ext w W}, ⟨⟨w, Ext.refl w⟩⟩, Subtype.val, fun i => i.2, fun W h => ⟨⟨W, h⟩, rfl⟩⟩

/-- The cells of trees. -/
def fl (l : List Tr) : List Value := l.flatMap Tr.cells
theorem fl_len (l : List Tr) : (fl l).length = l.length * 2 := by
  induction l with
  | nil => rfl
  | cons t l ih => simp only [fl, List.flatMap_cons, List.length_append, List.length_cons] at ih ⊢; rw [ih]; simp [Tr.cells]; omega
theorem fl_append (l m : List Tr) : fl (l ++ m) = fl l ++ fl m := by simp [fl]
theorem fl_cons (t : Tr) (l : List Tr) : fl (t :: l) = .int .i64 t.x :: t.v :: fl l := by simp [fl, Tr.cells]

theorem Row.tree {w : World} {B : Nat} {pre post : List Value} {p q : List Tr} {t : Tr} (h : Row w B 66 (pre ++ fl (p ++ t :: q) ++ post)) (o : Nat) (ho : pre.length = o) :
    w.cell? ⟨B, o + p.length * 2, none⟩ = some (.int .i64 t.x) ∧ w.cell? ⟨B, o + p.length * 2 + 1, none⟩ = some t.v := by
  subst ho
  have e : pre ++ fl (p ++ t :: q) ++ post = (pre ++ fl p) ++ (.int .i64 t.x :: t.v :: (fl q ++ post)) := by
    rw [fl_append, fl_cons]; simp
  rw [e] at h
  have hl : (pre ++ fl p).length = pre.length + p.length * 2 := by simp [fl_len]
  have h1 := h.cell (pre.length + p.length * 2) (by simp [fl_len])
  have h2 := h.cell (pre.length + p.length * 2 + 1) (by simp [fl_len]; omega)
  rw [h1, h2]
  rw [List.getElem_append_right (by omega), List.getElem_append_right (by omega)]
  simp [fl_len]

theorem set_mid (A B : List Value) (u v : Value) (k : Nat) (hk : k = A.length) : (A ++ u :: B).set k v = A ++ v :: B := by
  subst hk; simp

theorem Row.swapped {w : World} {B : Nat} {pre post : List Value} {p q : List Tr} {s t : Tr} (h : Row w B 66 (pre ++ fl (p ++ s :: t :: q) ++ post)) (o : Nat) (ho : pre.length = o) :
    Row ((((w.setCell ⟨B, o + (p.length + 1) * 2, none⟩ (.int .i64 s.x)).setCell ⟨B, o + (p.length + 1) * 2 + 1, none⟩ s.v).setCell ⟨B, o + p.length * 2, none⟩ (.int .i64 t.x)).setCell ⟨B, o + p.length * 2 + 1, none⟩ t.v) B 66 (pre ++ fl (p ++ t :: s :: q) ++ post) := by
  subst ho
  have e : pre ++ fl (p ++ s :: t :: q) ++ post = (pre ++ fl p) ++ (.int .i64 s.x :: s.v :: .int .i64 t.x :: t.v :: (fl q ++ post)) := by
    rw [fl_append, fl_cons, fl_cons]; simp
  have e2 : pre ++ fl (p ++ t :: s :: q) ++ post = (pre ++ fl p) ++ (.int .i64 t.x :: t.v :: .int .i64 s.x :: s.v :: (fl q ++ post)) := by
    rw [fl_append, fl_cons, fl_cons]; simp
  rw [e] at h
  rw [e2]
  have := (((h.set (pre.length + (p.length + 1) * 2) (.int .i64 s.x)).set (pre.length + (p.length + 1) * 2 + 1) s.v).set (pre.length + p.length * 2) (.int .i64 t.x)).set (pre.length + p.length * 2 + 1) t.v
  have h1 : (pre ++ fl p ++ (.int .i64 s.x :: s.v :: .int .i64 t.x :: t.v :: (fl q ++ post))).set (pre.length + (p.length + 1) * 2) (.int .i64 s.x) = pre ++ fl p ++ (.int .i64 s.x :: s.v :: .int .i64 s.x :: t.v :: (fl q ++ post)) := by
    have := set_mid (pre ++ fl p ++ [.int .i64 s.x, s.v]) (t.v :: (fl q ++ post)) (.int .i64 t.x) (.int .i64 s.x) (pre.length + (p.length + 1) * 2) (by simp [fl_len]; omega)
    simpa using this
  have h2 : (pre ++ fl p ++ (.int .i64 s.x :: s.v :: .int .i64 s.x :: t.v :: (fl q ++ post))).set (pre.length + (p.length + 1) * 2 + 1) s.v = pre ++ fl p ++ (.int .i64 s.x :: s.v :: .int .i64 s.x :: s.v :: (fl q ++ post)) := by
    have := set_mid (pre ++ fl p ++ [.int .i64 s.x, s.v, .int .i64 s.x]) (fl q ++ post) t.v s.v (pre.length + (p.length + 1) * 2 + 1) (by simp [fl_len]; omega)
    simpa using this
  have h3 : (pre ++ fl p ++ (.int .i64 s.x :: s.v :: .int .i64 s.x :: s.v :: (fl q ++ post))).set (pre.length + p.length * 2) (.int .i64 t.x) = pre ++ fl p ++ (.int .i64 t.x :: s.v :: .int .i64 s.x :: s.v :: (fl q ++ post)) :=
    set_mid _ _ _ _ _ (by simp [fl_len])
  have h4 : (pre ++ fl p ++ (.int .i64 t.x :: s.v :: .int .i64 s.x :: s.v :: (fl q ++ post))).set (pre.length + p.length * 2 + 1) t.v = pre ++ fl p ++ (.int .i64 t.x :: t.v :: .int .i64 s.x :: s.v :: (fl q ++ post)) := by
    have := set_mid (pre ++ fl p ++ [.int .i64 t.x]) (.int .i64 s.x :: s.v :: (fl q ++ post)) s.v t.v (pre.length + p.length * 2 + 1) (by simp [fl_len]; omega)
    simpa using this
  rw [h1, h2, h3, h4] at this
  exact this

/-- All but one block is as it was. -/
def KB (B : Nat) (w w' : World) : Prop := w.heap.size ≤ w'.heap.size ∧ ∀ k, k < w.heap.size → k ≠ B → w'.heap[k]? = w.heap[k]?
theorem KB.refl (B : Nat) (w : World) : KB B w w := ⟨Nat.le_refl _, fun _ _ _ => rfl⟩
theorem KB.trans {B : Nat} {a b c : World} (h : KB B a b) (k : KB B b c) : KB B a c :=
  ⟨Nat.le_trans h.1 k.1, fun i hi hne => (k.2 i (Nat.lt_of_lt_of_le hi h.1) hne).trans (h.2 i hi hne)⟩
theorem KB.of_ext {B : Nat} {w w' : World} (h : Ext w w') : KB B w w' := ⟨h.size, fun k hk _ => h.block k hk⟩
theorem KB.setCell {B : Nat} {w w' : World} (h : KB B w w') {i : Nat} (u : Value) : KB B w (w'.setCell ⟨B, i, none⟩ u) :=
  ⟨by rw [World.size_setCell]; exact h.1, fun k hk hne => by
    rw [Below.heap_setCell _ _ _ _ hne]
    exact h.2 k hk hne⟩

/-- While a tree seeks its place: what is ahead of it, and what it has passed. -/
structure Seek (l : List Tr) (i : Nat) (t : Tr) (p q : List Tr) : Prop where
  perm : (p ++ q).Perm (l.take i)
  sort : (p ++ q).Pairwise (fun a b => a.x ≤ b.x)
  past : ∀ y ∈ q, t.x < y.x
  at_ : l[i]? = some t

theorem Seek.step {l : List Tr} {i : Nat} {t y : Tr} {p q : List Tr} (h : Seek l i t (p ++ [y]) q) (hy : t.x < y.x) : Seek l i t p (y :: q) :=
  ⟨by simpa using h.perm, by simpa using h.sort, fun z hz => by rcases List.mem_cons.1 hz with rfl | hz; exact hy; exact h.past z hz, h.at_⟩

theorem Seek.done {l : List Tr} {i : Nat} {t : Tr} {p q : List Tr} (h : Seek l i t p q) (hp : ∀ u ∈ p, u.x ≤ t.x) :
    (p ++ t :: q).Perm (l.take (i + 1)) ∧ (p ++ t :: q).Pairwise (fun a b => a.x ≤ b.x) := by
  obtain ⟨hi, hx⟩ := List.getElem?_eq_some_iff.1 h.at_
  constructor
  · rw [List.take_succ_eq_append_getElem hi, hx]
    refine List.perm_middle.trans ?_
    exact (h.perm.cons t).trans (List.perm_append_singleton t _).symm
  · have hs := h.sort
    rw [List.pairwise_append] at hs ⊢
    refine ⟨hs.1, ?_, ?_⟩
    · rw [List.pairwise_cons]
      exact ⟨fun y hy => Int.le_of_lt (h.past y hy), hs.2.1⟩
    · intro u hu v hv
      rcases List.mem_cons.1 hv with rfl | hv
      · exact hp u hu
      · exact hs.2.2 u hu v hv

theorem last_le {p q : List Tr} {t y : Tr} (hs : (p ++ [y] ++ q).Pairwise (fun a b => a.x ≤ b.x)) (hy : ¬ t.x < y.x) : ∀ u ∈ p ++ [y], u.x ≤ t.x := by
  intro u hu
  rcases List.mem_append.1 hu with hu | hu
  · rw [List.append_assoc, List.pairwise_append] at hs
    have := hs.2.2 u hu y (by simp)
    omega
  · simp at hu
    subst hu
    omega

set_option maxHeartbeats 4000000 in
theorem insertion_any (w0 w : World) (B c o : Nat) (l : List Tr) (pre post : List Value) (hB : w0.heap.size ≤ B) (hE : Ext w0 w) (ho : pre.length = o) (hr : Row w B 66 (pre ++ fl l ++ post)) (hlen : l.length < 20) :
    Calls Try.prog 54 #[.slice (some ⟨B, o, none⟩) l.length c, .int .i64 0, .int .i64 l.length, .func (.func 42) #[] #[]] w
      fun e w' => e = .returned (.tuple #[]) ∧ ∃ l', Row w' B 66 (pre ++ fl l' ++ post) ∧ l'.Perm l ∧ l'.Pairwise (fun a b => a.x ≤ b.x) ∧ Ext w0 w' ∧ KB B w w' := by
  have eg : ∀ args w, (callFunc 42 args).run Try.prog w = .ok (.enter 42 args) w := enters_of Try.func42 (by kernel_rfl) rfl
  obtain ⟨n, hn⟩ : ∃ n, l.length = n := ⟨_, rfl⟩
  have HN : Hid (l.length = n) := hn
  have HO : Hid (pre.length = o) := ho
  rw [hn] at hlen ⊢
  have st : Hid (∃ s, Row w B 66 (pre ++ fl (s ++ l.drop 1) ++ post) ∧ s.Perm (l.take 1) ∧ s.Pairwise (fun a b => a.x ≤ b.x)) := by
    refine ⟨l.take 1, by rw [List.take_append_drop]; exact hr, List.Perm.refl _, ?_⟩
    cases l with
    | nil => simp
    | cons a r => simp
  have HE : Hid (Ext w0 w) := hE
  clear hn hr hE ho
  go_enter Try.func54, Try.ntmps54
  go_wp2
  go_loopg [8, 9] n (fun gg s _ wr => ∃ i : Nat, 1 ≤ i ∧ i ≤ n + 1 ∧ n - i ≤ gg ∧ s = .int .i64 i ∧ Aside (Ext w0 wr ∧ KB B w wr) ∧ Aside (∃ s, Row wr B 66 (pre ++ fl (s ++ l.drop i) ++ post) ∧ s.Perm (l.take i) ∧ s.Pairwise (fun a b => a.x ≤ b.x)))
  case atStart => exact ⟨1, by omega, by omega, by omega, rfl, ⟨HE.out, KB.refl _ _⟩, st.out⟩
  case round =>
    obtain ⟨i, hi1, hi2, hgg, rfl, BW, A⟩ := hrel
    by_cases hlt : i < n
    · have hltz : (i : Int) < (n : Int) := by omega
      have hil : i < l.length := by rw [HN.out]; exact hlt
      obtain ⟨t, ht⟩ : ∃ t, l[i] = t := ⟨_, rfl⟩
      have HX : Hid (l[i]? = some t) := by show _ = _; rw [List.getElem?_eq_getElem hil, ht]
      have st2 : Hid (∃ p q, p.length = i ∧ Row wr B 66 (pre ++ fl (p ++ t :: (q ++ l.drop (i + 1))) ++ post) ∧ Seek l i t p q) := by
        obtain ⟨s, h1, h2, h3⟩ := A.out
        refine ⟨s, [], ?_, ?_, ?_⟩
        · rw [h2.length_eq, List.length_take]; omega
        · rw [List.drop_eq_getElem_cons hil, ht] at h1
          exact h1
        · exact ⟨by simpa using h2, by simpa using h3, fun y hy => absurd hy (by simp), HX.out⟩
      clear ht A
      go_wp2
      go_loopg [9] i (fun gg s wi => ∃ j : Nat, j ≤ i ∧ j ≤ gg ∧ s = .int .i64 j ∧ Aside (Ext w0 wi ∧ KB B w wi) ∧ Aside (∃ p q, p.length = j ∧ Row wi B 66 (pre ++ fl (p ++ t :: (q ++ l.drop (i + 1))) ++ post) ∧ Seek l i t p q))
      case atStart => exact ⟨i, Nat.le_refl _, Nat.le_refl _, rfl, BW.out, st2.out⟩
      case round =>
        obtain ⟨j, hj1, hj2, rfl, BW2, A2⟩ := hrel
        cases j with
        | zero =>
          have nx : Hid (∃ s, Row wr B 66 (pre ++ fl (s ++ l.drop (i + 1)) ++ post) ∧ s.Perm (l.take (i + 1)) ∧ s.Pairwise (fun a b => a.x ≤ b.x)) := by
            obtain ⟨p, q, h1, h2, h3⟩ := A2.out
            have : p = [] := List.eq_nil_of_length_eq_zero h1
            subst this
            obtain ⟨h4, h5⟩ := h3.done (fun u hu => absurd hu (by simp))
            exact ⟨_, by simpa using h2, h4, h5⟩
          clear A2 st st2
          go_wp2
          go_quiet (fail)
          go_wp2
          go_roundg (n - (i + 1))
          case measure => omega
          case rel => exact ⟨i + 1, by omega, by omega, by omega, by go_num, ⟨BW2.out.1.trans (Qt.ext ⟨_, rfl⟩), BW2.out.2.trans (KB.of_ext (Qt.ext ⟨_, rfl⟩))⟩, by
            obtain ⟨s, h1, h2, h3⟩ := nx.out
            exact ⟨s, h1.ext (Qt.ext ⟨_, rfl⟩), h2, h3⟩⟩
        | succ j =>
          obtain ⟨p, q, h1, h2, h3⟩ := A2.out
          obtain ⟨p', y, rfl⟩ : ∃ p' y, p = p' ++ [y] := ⟨p.dropLast, p.getLast (by intro h; rw [h] at h1; simp at h1), (List.dropLast_concat_getLast _).symm⟩
          have hpl : p'.length = j := by simpa using h1
          subst hpl
          have h2' : Row wr B 66 (pre ++ fl (p' ++ y :: (t :: (q ++ l.drop (i + 1)))) ++ post) := by simpa using h2
          obtain ⟨e1, e1'⟩ := h2.tree o HO.out
          rw [show (p' ++ [y]).length = p'.length + 1 by simp] at e1 e1'
          obtain ⟨e2, e2'⟩ := h2'.tree o HO.out
          obtain ⟨tx, tg, tn, tcc, tS⟩ := t
          obtain ⟨yx, yg, yn, yc, yS⟩ := y
          simp only [Tr.v] at e1 e1' e2 e2'
          have hc : Hid (∀ W, Calls Try.prog 42 (#[.agg #[.int .i64 tx, .slice (some ⟨tg, 0, none⟩) tn tcc], .agg #[.int .i64 yx, .slice (some ⟨yg, 0, none⟩) yn yc]] ++ #[]) W fun e w' => e = .returned (.int .i64 (cmpI tx yx)) ∧ Ext W w') := fun W => lighter_any tx yx _ _ tn tcc yn yc W
          have nx1 : Hid (tx < yx → Seek l i ⟨tx, tg, tn, tcc, tS⟩ p' (⟨yx, yg, yn, yc, yS⟩ :: q)) := fun hk => h3.step hk
          have nx2 : Hid (¬ tx < yx → ∃ s, Row wr B 66 (pre ++ fl (s ++ l.drop (i + 1)) ++ post) ∧ s.Perm (l.take (i + 1)) ∧ s.Pairwise (fun a b => a.x ≤ b.x)) := by
            intro hk
            obtain ⟨h4, h5⟩ := h3.done (last_le (by simpa using h3.sort) hk)
            exact ⟨_, by simpa using h2, h4, h5⟩
          have RW : Hid (Row wr B 66 (pre ++ fl (p' ++ ⟨yx, yg, yn, yc, yS⟩ :: (⟨tx, tg, tn, tcc, tS⟩ :: (q ++ l.drop (i + 1)))) ++ post)) := h2'
          have hdec : decide (cmpI tx yx < 0) = decide (tx < yx) := by simp only [cmpI_neg]
          clear A2 h1 h2 h2' h3 st st2 HX
          generalize hj : p'.length = j at *
          have HJ : Hid (p'.length = j) := hj
          clear hj
          generalize cmpI tx yx = r at hc hdec
          have b1 : (j : Int) + 1 < (n : Int) := by omega
          have b0 : (j : Int) < (n : Int) := by omega
          have jp : (0 : Int) < (j : Int) + 1 := by omega
          obtain ⟨ι, _, g, hg, hgo⟩ := ext_fam wr
          have HG : Hid (∀ i, Ext wr (g i)) := hg
          have HGO : Hid (∀ W, Ext wr W → ∃ i, W = g i) := hgo
          have q1 : ∀ i, (g i).cell? ⟨B, o + (j + 1) * 2, none⟩ = some (.int .i64 tx) := fun i => (hg i).cell e1
          have q1' : ∀ i, (g i).cell? ⟨B, o + (j + 1) * 2 + 1, none⟩ = some (.slice (some ⟨tg, 0, none⟩) tn tcc) := fun i => (hg i).cell e1'
          have q2 : ∀ i, (g i).cell? ⟨B, o + j * 2, none⟩ = some (.int .i64 yx) := fun i => (hg i).cell e2
          have q2' : ∀ i, (g i).cell? ⟨B, o + j * 2 + 1, none⟩ = some (.slice (some ⟨yg, 0, none⟩) yn yc) := fun i => (hg i).cell e2'
          have hcall : Hid (∀ i, Calls Try.prog 42 (#[.agg #[.int .i64 tx, .slice (some ⟨tg, 0, none⟩) tn tcc], .agg #[.int .i64 yx, .slice (some ⟨yg, 0, none⟩) yn yc]] ++ #[]) (g i) fun e w' => e = .returned (.int .i64 r) ∧ ∃ m, w' = g m) := fun i => (hc.out (g i)).mono fun _ _ hh => ⟨hh.1, HGO.out _ ((HG.out i).trans hh.2)⟩
          have fz : ∀ i k, (g i).frozen? ⟨B, k, none⟩ = false := fun i k => (RW.out.ext (hg i)).fr k
          clear hg hgo hc e1 e1' e2 e2'
          by_cases hk : tx < yx
          · have hr : r < 0 := by simpa [hk] using hdec
            have nx := nx1.out hk
            have NX : Hid (Seek l i ⟨tx, tg, tn, tcc, tS⟩ p' (⟨yx, yg, yn, yc, yS⟩ :: q)) := nx
            have SW : Hid (∀ i', Row (((((g i').setCell ⟨B, o + (j + 1) * 2, none⟩ (.int .i64 yx)).setCell ⟨B, o + (j + 1) * 2 + 1, none⟩ (.slice (some ⟨yg, 0, none⟩) yn yc)).setCell ⟨B, o + j * 2, none⟩ (.int .i64 tx)).setCell ⟨B, o + j * 2 + 1, none⟩ (.slice (some ⟨tg, 0, none⟩) tn tcc)) B 66 (pre ++ fl (p' ++ ⟨tx, tg, tn, tcc, tS⟩ :: ⟨yx, yg, yn, yc, yS⟩ :: (q ++ l.drop (i + 1))) ++ post)) := by
              intro i'
              have := (RW.out.ext (HG.out i')).swapped o HO.out
              rw [HJ.out] at this
              exact this
            clear nx nx1 nx2 hdec RW hk
            go_wp2
            refine wp_region_fam g (by kernel_rfl) (by kernel_rfl) (HGO.out _ (ext_drew wr)) ?_
            repeat (go_big_quiet_step ((go_at_fn 42; exact hcall.out _)))
            refine wpQuiet_nil ?_
            rintro _ ⟨nq, rfl⟩
            clear hcall
            go_wp2
            go_region
            go_wp2
            go_roundg j
            case measure => omega
            case rel => exact ⟨j, by omega, by omega, rfl, ⟨(((((BW2.out.1.trans (HG.out nq)).setCell hB _).setCell hB _).setCell hB _).setCell hB _).trans (ext_drew _), (((((BW2.out.2.trans (KB.of_ext (HG.out nq))).setCell _).setCell _).setCell _).setCell _).trans (KB.of_ext (ext_drew _))⟩, p', ⟨yx, yg, yn, yc, yS⟩ :: q, HJ.out, (SW.out nq).ext (ext_drew _), NX.out⟩
          · have hr : ¬ r < 0 := by simpa [hk] using hdec
            have nx : Hid (∃ s, Row wr B 66 (pre ++ fl (s ++ l.drop (i + 1)) ++ post) ∧ s.Perm (l.take (i + 1)) ∧ s.Pairwise (fun a b => a.x ≤ b.x)) := nx2.out hk
            clear nx1 nx2 hdec RW hk
            go_wp2
            refine wp_region_fam g (by kernel_rfl) (by kernel_rfl) (HGO.out _ (ext_drew wr)) ?_
            repeat (go_big_quiet_step ((go_at_fn 42; exact hcall.out _)))
            refine wpQuiet_nil ?_
            rintro _ ⟨nq, rfl⟩
            clear hcall
            go_wp2
            go_roundg (n - (i + 1))
            case measure => omega
            case rel => exact ⟨i + 1, by omega, by omega, by omega, by go_num, ⟨BW2.out.1.trans (HG.out nq), BW2.out.2.trans (KB.of_ext (HG.out nq))⟩, by
              obtain ⟨s, h1, h2, h3⟩ := nx.out
              exact ⟨s, h1.ext (HG.out nq), h2, h3⟩⟩
    · have fin : Hid (∃ s, Row wr B 66 (pre ++ fl s ++ post) ∧ s.Perm l ∧ s.Pairwise (fun a b => a.x ≤ b.x)) := by
        obtain ⟨s, h1, h2, h3⟩ := A.out
        have := HN.out
        rw [List.drop_eq_nil_of_le (by omega), List.append_nil] at h1
        rw [List.take_of_length_le (by omega)] at h2
        exact ⟨s, h1, h2, h3⟩
      clear A st
      go_wp2
      go_end0
      exact ⟨rfl, by
        obtain ⟨s, h1, h2, h3⟩ := fin.out
        exact ⟨s, h1, h2, h3, BW.out.1, BW.out.2⟩⟩

end Go.Proofs.Ytakggfogoobdnaa
