/-
  A loop over a function that hands on what it has laid in memory itself: at each yield something holds of what is handed on, and the loop's body may lean on it. Nothing here speaks of the program.
-/
import Derived.RangeFuncWrites
import Derived.RangeFuncCalls
import Derived.RangeFuncLeaves
import Derived.Test.YtjdipgkdaloclaaDoorBase
namespace Go.Proofs.YtjdipgkdaloclaaDoor
open Go.RowKit

theorem keeps_ext {A B : World} (h : Ext A B) : KeepsOthers A B := ⟨h.size, fun k _ hk _ => (h.block k (Array.getElem?_eq_some_iff.1 hk).1).trans hk⟩

/-- N turns; at those that are chosen something is handed on of which T holds; the loop's invariant J goes on through all that only makes new memory. -/
def SeqE {α : Type} (F : Fence) (n : Nat) (P : Program) (gf : Nat) (lb : Array Value) (encs : α → Array Value) (T : Nat → α → World → Prop) (sel : Nat → Prop) (N : Nat) (w0 : World) : Prop :=
  ∀ (l : Nat) (J : Nat → World → Prop) (Jx : World → Prop) (W : World), Below w0.heap.size w0 W → (∀ s A B, J s A → Ext A B → J s B) → (∀ s A, s < N → ¬ sel s → J s A → J (s + 1) A) →
    (∀ s x A, s < N → sel s → J s A → T s x A → YieldAt F (n - 1) P l (encs x) A fun e B => ∃ b : Bool, e = .returned (.bool b) ∧ (b = true → J (s + 1) B ∧ Below w0.heap.size A B) ∧ (b = false → Jx B)) →
    J 0 W → CallsIn F n P gf (#[.func (.yield l) #[] #[]] ++ lb) W fun e B => (∃ v, e = .returned v) ∧ (J N B ∨ Jx B)

/-- How a round may end: on, or by a return. -/
def postE (w : World) (p : Nat → Prop) (Ix : World → Prop) (s : Nat) (W : World) : Exit → Act → World → Prop
  | .normal, _, B => KeepsFrom w.heap.size W B ∧ Below w.heap.size w B ∧ p (s + 1)
  | .ret, _, B => KeepsFrom w.heap.size W B ∧ Ix B
  | _, _, _ => False

theorem wpIn_rangeE {α : Type} {F : Fence} {n : Nat} {P : Program} {g : Operand} {ps : Array Tmp} {assign body : Code} {Q : Exit → Act → World → Prop} {a : Act} {w : World} (hro : F.round = none) (h1 : 1 ≤ n)
    {gf : Nat} {lb : Array Value} (hg : a.eval g = .func (.func gf) #[] lb) (hFg : F.fn gf) (eg : ∀ args w, (callFunc gf args).run P w = .ok (.enter gf args) w)
    {encs : α → Array Value} {T : Nat → α → World → Prop} {sel : Nat → Prop} {N : Nat} (hseq : SeqE F (n - 1) P gf lb encs T sel N w) (hps : ∀ x, (encs x).size = ps.size)
    (hT : ∀ s x (A : World) l o o', T s x A → A.heap[l]? = some o → o.isCells = false → T s x (A.putObj l o'))
    (p : Nat → Prop) (p0 : p 0) (pn : ∀ s, s < N → ¬ sel s → p s → p (s + 1)) (Ix : World → Prop)
    (hIx : ∀ (A : World) l o o', Ix A → w.heap.size ≤ l → A.heap[l]? = some o → o.isCells = false → Ix (A.putObj l o')) (a₁ : α → Act)
    (hassign : ∀ (l : Nat) (x : α) (W : World) (K : Act → World → Prop), K (a₁ x) W →
      assign.wpIn (F.inRound l) (n - 1 - 1) P (Exit.then K (fun _ _ _ => False)) { tmps := (ps.zip (encs x)).foldl (fun t (p, v) => t.setIfInBounds p v) a.tmps, defers := [] } W)
    (hbody : ∀ (l s : Nat) (x : α) (W : World), s < N → sel s → p s → Below w.heap.size w W → T s x W → body.wpIn (F.inRound l) (n - 1 - 1) P (postE w p Ix s W) (a₁ x) W)
    (hdone : ∀ (D : Nat) (W : World), w.heap.size ≤ D → p N → Below w.heap.size w W → W.heap[D]? = some (.deferred (some [])) → Q .normal { a with defers := { target := .collected D, args := #[] } :: a.defers } W)
    (hstop : ∀ (D : Nat) (W : World), w.heap.size ≤ D → Ix W → W.heap[D]? = some (.deferred (some [])) → Code.ret.wpIn F n P Q { a with defers := { target := .collected D, args := #[] } :: a.defers } W) :
    (Code.rangeFunc g ps assign body).wpIn F n P Q a w := by
  refine wpIn_rangeFunc fun fn hfn => ?_
  rw [hro]
  obtain ⟨rc, hrc⟩ : ∃ rc : LoopState → Option Code → Loop, rc = fun st pe => { state := st, pending := pe, fn, tmps := a.tmps, params := ps, assign, body, defers := w.heap.size } := ⟨_, rfl⟩
  obtain ⟨L, hL⟩ : ∃ L, L = w.heap.size + 1 := ⟨_, rfl⟩
  obtain ⟨V, hV⟩ : ∃ V, V = (w.alloc (.deferred (some []))).alloc (.loop (rc .ready none)) := ⟨_, rfl⟩
  have vl : V.heap[L]? = some (.loop (rc .ready none)) := by
    have := World.alloc_heap_new (w.alloc (.deferred (some []))) (.loop (rc .ready none))
    rw [World.size_alloc] at this
    rw [hV, hL]
    exact this
  have vd : V.heap[w.heap.size]? = some (.deferred (some [])) := by
    rw [hV]
    exact (Below.heap_alloc _ _ _ (by simp)).trans (World.alloc_heap_new w _)
  have vb : Below w.heap.size w V := by
    rw [hV]
    exact ((Ext.refl w).alloc _).alloc _
  have enter : (Instr.enterLoop fn a.tmps ps assign body none).run P w = .ok (L, [{ target := .collected w.heap.size, args := #[] }]) V := by
    rw [hL, hV, hrc]
    exact run_enterLoop_outer _ _ _ _ _
  -- what lies at the two blocks that the loop has laid
  have other : ∀ {A : World} {o : Obj}, A.heap[w.heap.size]? = some (.deferred (some [])) → (A.putObj L o).heap[w.heap.size]? = some (.deferred (some [])) := fun h => (World.putObj_heap_other (by omega)).trans h
  have put : ∀ {A : World} (st : LoopState) (pe : Option Code) (o : Obj), A.heap[L]? = some (.loop (rc st pe)) → (A.putObj L o).heap[L]? = some o := fun st pe o h => World.putObj_heap_same (Array.getElem?_eq_some_iff.1 h).1
  have low : ∀ {A B : World} (o : Obj), Below w.heap.size A B → Below w.heap.size A (B.putObj L o) := fun {A B} o h => ⟨h.os, h.tape, h.output, by rw [World.putObj_size]; exact h.size, fun k hk => (World.putObj_heap_other (by omega)).trans (h.block k hk)⟩
  refine ⟨L, [{ target := .collected w.heap.size, args := #[] }], V, { target := .fn (.func gf) lb, args := #[.func (.yield L) #[] #[]] }, V, gf, #[.func (.yield L) #[] #[]] ++ lb, V, enter, ?_, ?_, ?_, fun _ => h1, ?_⟩
  · simp only [resolve, hg]
    simp [go_sem]
  · intro f' hf'
    simp [Target.leads] at hf'
    subst hf'
    exact hFg
  · simp [invoke, go_sem, eg]
  · refine (hseq L (fun s A => (p s ∧ Below w.heap.size w A) ∧ A.heap[L]? = some (.loop (rc .ready none)) ∧ A.heap[w.heap.size]? = some (.deferred (some [])))
      (fun A => Ix A ∧ A.heap[L]? = some (.loop (rc .done (some .ret))) ∧ A.heap[w.heap.size]? = some (.deferred (some []))) V vb ?_ ?_ ?_ ⟨⟨p0, vb⟩, vl, vd⟩).mono ?_
    · rintro s A B ⟨⟨hp, hb⟩, hl, hd⟩ E
      exact ⟨⟨hp, hb.trans (E.mono hb.size)⟩, (E.block _ (Array.getElem?_eq_some_iff.1 hl).1).trans hl, (E.block _ (Array.getElem?_eq_some_iff.1 hd).1).trans hd⟩
    · rintro s A hs hn ⟨⟨hp, hb⟩, h⟩
      exact ⟨⟨pn s hs hn hp, hb⟩, h⟩
    · rintro s x A hs hsel ⟨⟨hp, hb⟩, hl, hd⟩ hx
      have hy := run_yield (P := P) (args := encs x) hl (by rw [hrc]; exact hps x)
      rw [hrc] at hy
      refine ⟨fn, _, assign, body, hy, roundIn_of_wpIn hfn (hassign _ x A _ ⟨_, run_beginRound hl (by rw [hrc]), ?_⟩)⟩
      have l2 := put .ready none (.loop { rc .ready none with state := .busy }) hl
      have d2 := other (o := .loop { rc .ready none with state := .busy }) hd
      have b2 := low (.loop { rc .ready none with state := .busy }) hb
      have x2 := hT s x A L _ (.loop { rc .ready none with state := .busy }) hx hl rfl
      have k2 := low (.loop { rc .ready none with state := .busy }) (Below.refl w.heap.size A)
      refine wpIn_mono (hbody L s x _ hs hsel hp b2 x2) ?_
      -- the round's end
      have ends : ∀ (jump : Option Code) (B : World), KeepsFrom w.heap.size (A.putObj L (.loop { rc .ready none with state := .busy })) B →
          B.heap[L]? = some (.loop { rc .ready none with state := .busy }) ∧ B.heap[w.heap.size]? = some (.deferred (some [])) ∧
          (Instr.endRound L jump).run P B = .ok (.bool jump.isNone) (B.putObj L (.loop (rc (if jump.isNone then .ready else .done) jump))) := fun jump B hk => by
        have hl3 := hk.same _ _ (by omega) l2 rfl
        have := run_endRound (P := P) jump hl3
        rw [hrc] at this ⊢
        exact ⟨by rw [hrc] at hl3; exact hl3, hk.same _ _ (Nat.le_refl _) d2 rfl, this⟩
      have same : ∀ {B : World} (o : Obj), B.heap[L]? = some (.loop { rc .ready none with state := .busy }) → (B.putObj L o).heap[L]? = some o := fun o h => World.putObj_heap_same (Array.getElem?_eq_some_iff.1 h).1
      rintro e a3 B hq
      cases e with
      | normal =>
        obtain ⟨hk, hb3, hp3⟩ := hq
        obtain ⟨e1, e2, e3⟩ := ends none B hk
        have hAB : Below w.heap.size A (B.putObj L (.loop (rc .ready none))) := ⟨hb3.os.trans hb.os.symm, hb3.tape.trans hb.tape.symm, hb3.output.trans hb.output.symm, by
          have := hk.size
          rw [World.putObj_size] at this
          rw [World.putObj_size]
          exact this, fun k hkl => ((World.putObj_heap_other (by omega)).trans (hb3.block k hkl)).trans (hb.block k hkl).symm⟩
        exact ⟨_, _, e3, true, rfl, fun _ => ⟨⟨⟨hp3, low _ hb3⟩, same _ e1, other e2⟩, hAB⟩, fun h => by cases h⟩
      | ret =>
        obtain ⟨hk, hx3⟩ := hq
        obtain ⟨e1, e2, e3⟩ := ends (some .ret) B hk
        exact ⟨_, _, e3, false, rfl, fun h => (by cases h), fun _ => ⟨hIx B L _ _ hx3 (by omega) e1 rfl, same _ e1, other e2⟩⟩
      | exit id => exact hq.elim
      | goto t => exact hq.elim
      | panic ch => exact hq.elim
      | outgrown => exact hq.elim
    · rintro e B ⟨⟨v, rfl⟩, (⟨⟨hp, hb⟩, hl, hd⟩ | ⟨hx, hl, hd⟩)⟩
      · have := run_endLoop (P := P) hl (by rw [hrc]; simp)
        rw [hrc] at this
        exact ⟨none, _, this, hdone _ _ (Nat.le_refl _) hp (low _ hb) (other hd)⟩
      · have := run_endLoop (P := P) hl (by rw [hrc]; simp)
        rw [hrc] at this
        exact ⟨some .ret, _, this, hstop _ _ (Nat.le_refl _) (hIx B L _ _ hx (by omega) hl rfl) (other hd)⟩

end Go.Proofs.YtjdipgkdaloclaaDoor
