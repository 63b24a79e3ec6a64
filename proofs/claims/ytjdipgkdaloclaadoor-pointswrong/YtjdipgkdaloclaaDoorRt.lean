/-
  Lagrange: a polynomial that is not all 0 is 0 at fewer numbers than it has. Nothing here speaks of the program.
-/
import Derived.Test.YtjdipgkdaloclaaDoorGf
namespace Go.Proofs.YtjdipgkdaloclaaDoor

theorem xor_gm {a b c : Nat} (ha : a < 16) (hb : b < 16) (hc : c < 16) : gm (a ^^^ b) c = gm a c ^^^ gm b c := by
  rw [gm_comm (xor_lt ha hb) hc, gm_xor hc ha hb, gm_comm hc ha, gm_comm hc hb]

/-- What x - r is taken off. -/
def qt (r : Nat) : List Nat → List Nat
  | [] => []
  | c :: t => ev r (c :: t) :: qt r t

theorem qt_len (r : Nat) : ∀ l : List Nat, (qt r l).length = l.length
  | [] => rfl
  | _ :: t => congrArg (· + 1) (qt_len r t)
theorem qt_lt {r : Nat} (hr : r < 16) : ∀ {l : List Nat}, (∀ c ∈ l, c < 16) → ∀ c ∈ qt r l, c < 16
  | [], _ => fun c hc => by cases hc
  | d :: t, h => fun c hc => by
    rcases List.mem_cons.1 hc with e | h'
    · rw [e]; exact ev_lt hr h
    · exact qt_lt hr (fun c hc => h c (List.mem_cons_of_mem _ hc)) c h'
theorem qt_zero {r : Nat} (hr : r < 16) : ∀ {l : List Nat}, (∀ c ∈ l, c < 16) → (∀ c ∈ qt r l, c = 0) → ∀ c ∈ l, c = 0
  | [], _, _ => fun c hc => by cases hc
  | d :: t, h, hz => by
    have ht := fun c hc => h c (List.mem_cons_of_mem _ hc)
    have iz := qt_zero hr ht (fun c hc => hz c (List.mem_cons_of_mem _ hc))
    have e0 : ev r t = 0 := by
      clear h hz ht
      induction t with
      | nil => rfl
      | cons c t ih =>
        show gm (ev r t) r ^^^ c = 0
        rw [ih (fun d hd => iz d (List.mem_cons_of_mem _ hd)), iz c (List.mem_cons_self ..), zero_gm hr]
        rfl
    have e1 : gm (ev r t) r ^^^ d = 0 := hz _ (List.mem_cons_self ..)
    rw [e0, zero_gm hr, Nat.zero_xor] at e1
    intro c hc
    rcases List.mem_cons.1 hc with e | h'
    · rw [e]; exact e1
    · exact iz c h'

theorem qt_ev {x r : Nat} (hx : x < 16) (hr : r < 16) : ∀ {t : List Nat}, (∀ c ∈ t, c < 16) → gm (ev x t) x ^^^ gm (ev r t) r = gm (ev x (qt r t)) (x ^^^ r)
  | [], _ => by
    show gm 0 x ^^^ gm 0 r = gm 0 (x ^^^ r)
    rw [zero_gm hx, zero_gm hr, zero_gm (xor_lt hx hr)]
    rfl
  | c :: t, h => by
    have hc := h c (List.mem_cons_self ..)
    have ht := fun c hc => h c (List.mem_cons_of_mem _ hc)
    have ih := qt_ev hx hr ht
    have la := ev_lt hx ht
    have lb := ev_lt hr ht
    have lq := ev_lt hx (qt_lt hr ht)
    have lX := ev_lt hx h
    have lR := ev_lt hr h
    have lxr := xor_lt hx hr
    have eX : ev x (c :: t) = gm (ev x t) x ^^^ c := rfl
    have eR : ev r (c :: t) = gm (ev r t) r ^^^ c := rfl
    have eXR : ev x (c :: t) ^^^ ev r (c :: t) = gm (ev x t) x ^^^ gm (ev r t) r := by
      rw [eX, eR, Nat.xor_assoc, Nat.xor_comm c, Nat.xor_assoc, Nat.xor_self, Nat.xor_zero]
    have eQ : ev x (qt r (c :: t)) = gm (ev x (qt r t)) x ^^^ ev r (c :: t) := rfl
    rw [eQ, xor_gm (gm_lt lq hx) lR lxr, gm_assoc lq hx lxr, gm_comm hx lxr, ← gm_assoc lq lxr hx, ← ih, ← eXR, xor_gm lX lR hx, gm_xor lR hx hr, Nat.xor_assoc, ← Nat.xor_assoc (gm (ev r (c :: t)) x), Nat.xor_self, Nat.zero_xor]

/-- How many of the first k numbers it is 0 at. -/
def rt (l : List Nat) (k : Nat) : Nat := (List.range k).countP fun x => ev x l == 0
theorem rt_zero (l : List Nat) : rt l 0 = 0 := rfl
theorem rt_next (l : List Nat) (k : Nat) : rt l (k + 1) = rt l k + (if ev k l = 0 then 1 else 0) := by
  rw [rt, List.range_succ, List.countP_append, ← rt]
  congr 1
  simp [List.countP_cons]
theorem rt_le (l : List Nat) (k : Nat) : rt l k ≤ k := by
  have := List.countP_le_length (p := fun x => ev x l == 0) (l := List.range k)
  rwa [List.length_range] at this

theorem count_or {α : Type} (p q : α → Bool) : ∀ L : List α, L.countP (fun x => p x || q x) ≤ L.countP p + L.countP q
  | [] => Nat.le_refl _
  | a :: L => by
    have ih := count_or p q L
    rw [List.countP_cons, List.countP_cons, List.countP_cons]
    cases p a <;> cases q a <;> simp <;> omega
theorem count_one0 : ∀ r : Fin 16, (List.range 16).countP (fun x => x == r.val) ≤ 1 := by decide

theorem xor_zero_iff {x r : Nat} (h : x ^^^ r = 0) : x = r := by
  have := congrArg (· ^^^ r) h
  simpa [Nat.xor_assoc] using this

theorem lagrange : ∀ (n : Nat) (l : List Nat), l.length = n → (∀ c ∈ l, c < 16) → ¬ (∀ c ∈ l, c = 0) → rt l 16 < n := by
  intro n
  induction n with
  | zero =>
    intro l hl _ h0
    have : l = [] := List.eq_nil_of_length_eq_zero hl
    subst this
    exact absurd (fun c hc => by cases hc) h0
  | succ n ih =>
    intro l hl h h0
    cases l with
    | nil => cases hl
    | cons d t =>
      have ht := fun c hc => h c (List.mem_cons_of_mem _ hc)
      by_cases hr : ∃ r, r < 16 ∧ ev r (d :: t) = 0
      · obtain ⟨r, hr, er⟩ := hr
        have hq0 : ¬ ∀ c ∈ qt r t, c = 0 := fun hz => h0 (by
          have iz := qt_zero hr ht hz
          refine qt_zero hr h (fun c hc => ?_)
          rcases List.mem_cons.1 hc with e | h'
          · rw [e]; exact er
          · exact hz c h')
        have := ih (qt r t) (by rw [qt_len]; simpa using hl) (qt_lt hr ht) hq0
        have c1 : rt (d :: t) 16 ≤ (List.range 16).countP (fun x => (ev x (qt r t) == 0) || (x == r)) := by
          refine List.countP_mono_left (fun x hx hz => ?_)
          have hx := List.mem_range.1 hx
          have ez : ev x (d :: t) = 0 := by simpa using hz
          have e : ev x (d :: t) ^^^ ev r (d :: t) = gm (ev x (qt r t)) (x ^^^ r) := by
            rw [← qt_ev hx hr ht]
            show (gm (ev x t) x ^^^ d) ^^^ (gm (ev r t) r ^^^ d) = _
            rw [Nat.xor_assoc, Nat.xor_comm d, Nat.xor_assoc, Nat.xor_self, Nat.xor_zero]
          rw [ez, er, Nat.xor_self] at e
          rcases gm_none (ev_lt hx (qt_lt hr ht)) (xor_lt hx hr) e.symm with e1 | e1
          · simp [e1]
          · simp [xor_zero_iff e1]
        have c2 := count_or (fun x => ev x (qt r t) == 0) (fun x => x == r) (List.range 16)
        have c3 : (List.range 16).countP (fun x => x == r) ≤ 1 := count_one0 ⟨r, hr⟩
        have c4 : rt (qt r t) 16 = (List.range 16).countP (fun x => ev x (qt r t) == 0) := rfl
        omega
      · have : rt (d :: t) 16 = 0 := by
          rw [rt, List.countP_eq_zero]
          intro x hx hz
          exact hr ⟨x, List.mem_range.1 hx, by simpa using hz⟩
        omega

theorem all_zero {l : List Nat} (h : ∀ c ∈ l, c = 0) : rt l 16 = 16 := by
  have e : ∀ x, x < 16 → ev x l = 0 := fun x hx => by
    induction l with
    | nil => rfl
    | cons c t ih =>
      show gm (ev x t) x ^^^ c = 0
      rw [ih (fun d hd => h d (List.mem_cons_of_mem _ hd)), h c (List.mem_cons_self ..), zero_gm hx]
      rfl
  have : rt l 16 = (List.range 16).length := by
    rw [rt, List.countP_eq_length]
    intro x hx
    simp [e x (List.mem_range.1 hx)]
  rw [this, List.length_range]

end Go.Proofs.YtjdipgkdaloclaaDoor
