/-
  Regions that draw their order: operations that make memory or call, in whatever order they come.
-/
import Derived.Test.YtnkhlohoaoiefaaDoorMix
namespace Go.Proofs.YtnkhlohoaoiefaaDoor
open Go.RowKit

/-- One value changed. -/
def upd (v : Nat → Value) (i : Nat) (x : Value) : Nat → Value := fun j => if j = i then x else v j
theorem upd_self (v : Nat → Value) (i : Nat) (x : Value) : upd v i x i = x := by simp [upd]
theorem upd_ne (v : Nat → Value) {i j : Nat} (x : Value) (h : j ≠ i) : upd v i x j = v j := by simp [upd, h]

/-- The values of these operations in their slots. -/
def puts (D : Nat → Nat) (v : Nat → Value) : List Nat → Act → Act
  | [], a => a
  | i :: l, a => puts D v l (a.put (some (D i)) (v i))

theorem put_put (a : Act) (d : Nat) (x y : Value) : (a.put (some d) x).put (some d) y = a.put (some d) y := by
  simp [Act.put]

theorem puts_put (D : Nat → Nat) (v : Nat → Value) : ∀ (l : List Nat) (a : Act) (d : Nat) (x : Value), (∀ i ∈ l, D i ≠ d) → (puts D v l a).put (some d) x = puts D v l (a.put (some d) x)
  | [], _, _, _, _ => rfl
  | i :: l, a, d, x, h => by
    show (puts D v l _).put _ x = puts D v l _
    rw [puts_put D v l _ d x (fun j hj => h j (by simp [hj]))]
    congr 1
    exact Act.put_comm a (v i) x (fun e he => by
      simp only [Option.some.injEq] at he
      subst he
      intro h'
      simp only [Option.some.injEq] at h'
      exact h i (by simp) h'.symm)

theorem puts_congr (D : Nat → Nat) {v u : Nat → Value} : ∀ (l : List Nat) (a : Act), (∀ i ∈ l, v i = u i) → puts D v l a = puts D u l a
  | [], _, _ => rfl
  | i :: l, a, h => by
    show puts D v l _ = puts D u l _
    rw [h i (by simp)]
    exact puts_congr D l _ (fun j hj => h j (by simp [hj]))

theorem puts_upd (D : Nat → Nat) (v : Nat → Value) (i : Nat) (x : Value) : ∀ (l : List Nat) (a : Act), i ∈ l → (l.map D).Nodup → (puts D v l a).put (some (D i)) x = puts D (upd v i x) l a
  | [], _, h, _ => by cases h
  | j :: l, a, h, hn => by
    simp only [List.map_cons, List.nodup_cons] at hn
    by_cases hj : i = j
    · subst hj
      have hi : ∀ k ∈ l, D k ≠ D i := fun k hk e => hn.1 (List.mem_map.2 ⟨k, hk, e⟩)
      show (puts D v l _).put _ x = puts D (upd v i x) l _
      rw [puts_put D v l _ _ x hi, put_put, upd_self]
      refine puts_congr D l _ (fun k hk => ?_)
      rw [upd_ne _ _ (fun e => hi k hk (by rw [e]))]
    · have hi : i ∈ l := by
        rcases List.mem_cons.1 h with h | h
        · exact absurd h hj
        · exact h
      show (puts D v l _).put _ x = puts D (upd v i x) l _
      rw [puts_upd D v i x l _ hi hn.2, upd_ne _ _ (fun e => hj e.symm)]

section
variable {P : Program} {ops : Array Oper} {md : Region.Mode}

/-- Whatever order: what is ready is among the rest, and what it leans on is done. -/
def rOk (md : Region.Mode) (ops : Array Oper) (deps : Nat → List Nat) (loud : List Nat) (fin : Array Bool) : Nat → List Nat → List Nat → Array Bool → Bool
  | 0, _, done, listed => loud.all (fun i => done.contains i) && listed == fin
  | n + 1, rem, done, listed => !(Region.ready md ops listed).isEmpty && (Region.ready md ops listed).all (fun i =>
      rem.contains i && (deps i).all (fun j => done.contains j) && rOk md ops deps loud fin n (rem.erase i) (i :: done) (listed.setIfInBounds i true))

/-- A block that was not there before. -/
def Fresh (W W' : World) (x : Value) : Prop := ∃ B, x = .pointer (some ⟨B, 0, none⟩) ∧ W.heap.size ≤ B ∧ B < W'.heap.size

/-- An operation in whatever world of the class. -/
def Lo (P : Program) (ops : Array Oper) (w0 : World) (D : Nat → Nat) (R : Nat → Value → World → Prop) (deps : Nat → List Nat) (al : Nat → Bool) (a0 : Act) (loud : List Nat) (i : Nat) : Prop :=
  ∃ o, ops.toList[i]? = some o ∧ o.dst = some (D i) ∧ ∀ v W, Ext w0 W → (∀ j ∈ deps i, R j (v j) W) →
    Region.wanted o (yielded ops (puts D v loud a0).tmps) = true ∧ mUpon P o (puts D v loud a0) (fun a' W' => ∃ x, a' = (puts D v loud a0).put (some (D i)) x ∧ R i x W' ∧ Ext W W' ∧ (al i = true → Fresh W W' x)) ((execOp (puts D v loud a0).eval o).run P W)

/-- Blocks of their own, no two the same. -/
def Dis (al : Nat → Bool) (done : List Nat) (v : Nat → Value) (W : World) : Prop :=
  (∀ i ∈ done, al i = true → ∃ B, v i = .pointer (some ⟨B, 0, none⟩) ∧ B < W.heap.size) ∧ ∀ i ∈ done, ∀ j ∈ done, al i = true → al j = true → i ≠ j → v i ≠ v j

theorem Dis.next {al : Nat → Bool} {done : List Nat} {v : Nat → Value} {W W' : World} {i : Nat} {x : Value} (h : Dis al done v W) (hE : Ext W W') (hF : al i = true → Fresh W W' x) : Dis al (i :: done) (upd v i x) W' := by
  have h1 : ∀ j ∈ i :: done, j ≠ i → j ∈ done := fun j hj hne => by
    rcases List.mem_cons.1 hj with h | h
    · exact absurd h hne
    · exact h
  refine ⟨fun j hj ha => ?_, fun j hj k hk haj hak hne => ?_⟩
  · by_cases hji : j = i
    · subst hji
      obtain ⟨B, h2, h3, h4⟩ := hF ha
      exact ⟨B, by rw [upd_self]; exact h2, h4⟩
    · obtain ⟨B, h2, h3⟩ := h.1 j (h1 j hj hji) ha
      exact ⟨B, by rw [upd_ne _ _ hji]; exact h2, Nat.lt_of_lt_of_le h3 hE.size⟩
  · have key : ∀ m ∈ done, al m = true → al i = true → v m ≠ x := fun m hm ham hai e => by
      obtain ⟨B, h2, h3⟩ := h.1 m hm ham
      obtain ⟨B', h4, h5, _⟩ := hF hai
      rw [h2, h4] at e
      simp only [Value.pointer.injEq, Option.some.injEq, Addr.mk.injEq] at e
      omega
    by_cases hji : j = i
    · subst hji
      have hkj : k ≠ j := fun e => hne e.symm
      rw [upd_self, upd_ne _ _ hkj]
      exact fun e => key k (h1 k hk hkj) hak haj e.symm
    · by_cases hki : k = i
      · subst hki
        rw [upd_self, upd_ne _ _ hji]
        exact key j (h1 j hj hji) haj hak
      · rw [upd_ne _ _ hji, upd_ne _ _ hki]
        exact h.2 j (h1 j hj hji) k (h1 k hk hki) haj hak hne

theorem wpMix_loud {Q : Act → World → Prop} (w0 : World) (D : Nat → Nat) (R : Nat → Value → World → Prop) (deps : Nat → List Nat) (al : Nat → Bool) (loud : List Nat) (fin : Array Bool) (fuel : Nat) (a0 : Act)
    (hnd : (loud.map D).Nodup) (hR : ∀ i v W W', R i v W → Ext W W' → R i v W') (hL : ∀ i ∈ loud, Lo P ops w0 D R deps al a0 loud i)
    (hfin : ∀ v W, Ext w0 W → (∀ i ∈ loud, R i (v i) W) → (∀ i ∈ loud, ∀ j ∈ loud, al i = true → al j = true → i ≠ j → v i ≠ v j) → wpMix P md ops (Ext w0) Q fuel fin (puts D v loud a0) W) :
    ∀ (n : Nat) (rem done : List Nat) (listed : Array Bool) (v : Nat → Value) (W : World), rOk md ops deps loud fin n rem done listed = true → (∀ i ∈ rem, i ∈ loud) → Ext w0 W → (∀ i ∈ done, R i (v i) W) → Dis al done v W →
      wpMix P md ops (Ext w0) Q (n + fuel) listed (puts D v loud a0) W
  | 0, rem, done, listed, v, W, hok, _, hE, hd, hs => by
    simp only [rOk, Bool.and_eq_true, List.all_eq_true, beq_iff_eq, List.contains_iff_mem] at hok
    rw [Nat.zero_add, hok.2]
    exact hfin v W hE (fun i hi => hd i (hok.1 i hi)) (fun i hi j hj => hs.2 i (hok.1 i hi) j (hok.1 j hj))
  | n + 1, rem, done, listed, v, W, hok, hrem, hE, hd, hs => by
    rw [rOk, Bool.and_eq_true, List.all_eq_true] at hok
    rw [Nat.succ_add]
    refine ⟨hE, fun h0 => ?_, fun i hi => ?_⟩
    · rw [h0] at hok; simp at hok
    · have h1 := hok.2 i hi
      rw [Bool.and_eq_true, Bool.and_eq_true, List.all_eq_true, List.contains_iff_mem] at h1
      obtain ⟨⟨hir, hdep⟩, hnx⟩ := h1
      have hil := hrem i hir
      obtain ⟨o, ho', hod, hrun⟩ := hL i hil
      have ho : ops[i]? = some o := by rw [← Array.getElem?_toList]; exact ho'
      obtain ⟨hw, hm⟩ := hrun v W hE (fun j hj => hd j (by simpa using hdep j hj))
      unfold mOp
      simp only [ho, hw, if_true]
      refine mUpon_mono ?_ hm
      rintro a' W' ⟨x, rfl, hx, hE', hF⟩
      rw [puts_upd D v i x loud a0 hil hnd]
      refine wpMix_loud w0 D R deps al loud fin fuel a0 hnd hR hL hfin n (rem.erase i) (i :: done) _ (upd v i x) W' hnx (fun j hj => hrem j (List.mem_of_mem_erase hj)) (hE.trans hE') ?_ (hs.next hE' hF)
      intro j hj
      by_cases hji : j = i
      · subst hji; rw [upd_self]; exact hx
      · rw [upd_ne _ _ hji]
        rcases List.mem_cons.1 hj with h | h
        · exact absurd h hji
        · exact hR _ _ _ _ (hd j h) hE'

/-- As one step of a walk. -/
theorem wpMix_louds {Q : Act → World → Prop} (w0 : World) (D : Nat → Nat) (R : Nat → Value → World → Prop) (deps : Nat → List Nat) (al : Nat → Bool) (loud : List Nat) (fin : Array Bool) (fuel n : Nat) {a : Act} {listed : Array Bool} {W : World}
    (ha : puts D (fun i => a.tmps.getD (D i) undef) loud a = a) (hok : (decide ((loud.map D).Nodup) && rOk md ops deps loud fin n loud [] listed) = true) (hE : Ext w0 W)
    (hR : ∀ i v W W', R i v W → Ext W W' → R i v W') (hL : ∀ i ∈ loud, Lo P ops w0 D R deps al a loud i)
    (hfin : ∀ v W, Ext w0 W → (∀ i ∈ loud, R i (v i) W) → (∀ i ∈ loud, ∀ j ∈ loud, al i = true → al j = true → i ≠ j → v i ≠ v j) → wpMix P md ops (Ext w0) Q fuel fin (puts D v loud a) W) : wpMix P md ops (Ext w0) Q (n + fuel) listed a W := by
  rw [Bool.and_eq_true, decide_eq_true_eq] at hok
  rw [← ha]
  exact wpMix_loud w0 D R deps al loud fin fuel a hok.1 hR hL hfin n loud [] listed _ W hok.2 (fun i hi => hi) hE (fun i hi => by cases hi) ⟨fun i hi => (by cases hi), fun i hi => (by cases hi)⟩

theorem Lo.call {w0 : World} {D : Nat → Nat} {R : Nat → Value → World → Prop} {deps : Nat → List Nat} {al : Nat → Bool} {a : Act} {loud : List Nat} {i : Nat} {o : Oper} (f : FuncId) (ho : ops.toList[i]? = some o) (hd : o.dst = some (D i)) (hal : al i = false)
    (hw : ∀ v, Region.wanted o (yielded ops (puts D v loud a).tmps) = true)
    (hr : ∀ v W, Ext w0 W → (∀ j ∈ deps i, R j (v j) W) → ∃ args, (execOp (puts D v loud a).eval o).run P W = .ok (.enter f args) W ∧ Calls P f args W fun e w'' => ∃ x, e = .returned x ∧ R i x w'' ∧ Ext W w'') :
    Lo P ops w0 D R deps al a loud i := by
  refine ⟨o, ho, hd, fun v W hE hdp => ⟨hw v, ?_⟩⟩
  obtain ⟨args, h1, h2⟩ := hr v W hE hdp
  rw [h1]
  exact h2.mono fun e w'' ⟨x, he, hx, hE'⟩ => ⟨x, he, x, by rw [hd], hx, hE', fun h => by rw [hal] at h; cases h⟩

theorem Lo.value {w0 : World} {D : Nat → Nat} {R : Nat → Value → World → Prop} {deps : Nat → List Nat} {al : Nat → Bool} {a : Act} {loud : List Nat} {i : Nat} {o : Oper} (ho : ops.toList[i]? = some o) (hd : o.dst = some (D i))
    (hw : ∀ v, Region.wanted o (yielded ops (puts D v loud a).tmps) = true)
    (hr : ∀ v W, Ext w0 W → (∀ j ∈ deps i, R j (v j) W) → ∃ x W', (execOp (puts D v loud a).eval o).run P W = .ok (.value x) W' ∧ R i x W' ∧ Ext W W' ∧ (al i = true → Fresh W W' x)) :
    Lo P ops w0 D R deps al a loud i := by
  refine ⟨o, ho, hd, fun v W hE hdp => ⟨hw v, ?_⟩⟩
  obtain ⟨x, W', h1, h2, h3, h4⟩ := hr v W hE hdp
  rw [h1]
  exact ⟨x, by rw [hd], h2, h3, h4⟩

end
end Go.Proofs.YtnkhlohoaoiefaaDoor
