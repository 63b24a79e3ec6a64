/-
  points.Fix where the counts are right and all numbers are of the field.
-/
import Derived.Test.YtjdipgkdaloclaaDoorRs
import Derived.Test.YtjdipgkdaloclaaDoorMr
import Derived.Test.YtjdipgkdaloclaaDoorChk
namespace Go.Proofs.YtjdipgkdaloclaaDoor
open Go.RowKit Go.Shelf
set_option linter.unusedVariables false

attribute [local go_sem] Oper.semAt_some

theorem nil_nums (w : World) : Nums w ⟨none, 0, []⟩ := ⟨Nat.le_refl _, by unfold maxLen; exact Nat.zero_le _, fun _ => rfl, 0, 0, fun h => absurd h (by simp), fun i h => absurd h (by simp)⟩
/-- What Fix has told. -/
def Told (z : List Int) (k : Nat) (X : Int) (r : List Int) : Prop :=
  (X = 0 ∧ ∃ s, s < 2 ^ z.length ∧ near z k s ∧ (∀ t, t < s → ¬ near z k t) ∧ r = zl (sd z k s)) ∨ (X = 5 ∧ r = [] ∧ ∀ t, t < 2 ^ z.length → ¬ near z k t)

/-- The six cells that lie ahead of the loop. -/
theorem boxes (w : World) (v0 vl v4 v5 vk vn : Value) (W : World) (hW : W = (((((w.alloc (.cells #[v0] 3)).alloc (.cells #[vl] 22)).alloc (.cells #[v4] 22)).alloc (.cells #[v5] 23)).alloc (.cells #[vk] 3)).alloc (.cells #[vn] 3)) :
    Boxed W w.heap.size 3 v0 ∧ Boxed W (w.heap.size + 1) 22 vl ∧ Boxed W (w.heap.size + 1 + 1) 22 v4 ∧ Boxed W (w.heap.size + 1 + 1 + 1) 23 v5 ∧ Boxed W (w.heap.size + 1 + 1 + 1 + 1) 3 vk ∧ Boxed W (w.heap.size + 1 + 1 + 1 + 1 + 1) 3 vn ∧ W.heap.size = w.heap.size + 6 ∧ Ext w W := by
  subst hW
  have b0 := Boxed.new w 3 v0
  have b1 := Boxed.new (w.alloc (.cells #[v0] 3)) 22 vl
  have b2 := Boxed.new ((w.alloc (.cells #[v0] 3)).alloc (.cells #[vl] 22)) 22 v4
  have b3 := Boxed.new (((w.alloc (.cells #[v0] 3)).alloc (.cells #[vl] 22)).alloc (.cells #[v4] 22)) 23 v5
  have b4 := Boxed.new ((((w.alloc (.cells #[v0] 3)).alloc (.cells #[vl] 22)).alloc (.cells #[v4] 22)).alloc (.cells #[v5] 23)) 3 vk
  have b5 := Boxed.new (((((w.alloc (.cells #[v0] 3)).alloc (.cells #[vl] 22)).alloc (.cells #[v4] 22)).alloc (.cells #[v5] 23)).alloc (.cells #[vk] 3)) 3 vn
  simp only [World.size_alloc] at b1 b2 b3 b4 b5
  exact ⟨((((b0.alloc _).alloc _).alloc _).alloc _).alloc _, (((b1.alloc _).alloc _).alloc _).alloc _, ((b2.alloc _).alloc _).alloc _, (b3.alloc _).alloc _, b4.alloc _, b5, by simp, ((((((Ext.refl w).alloc _).alloc _).alloc _).alloc _).alloc _).alloc _⟩
theorem nums_set (x : Nm) {A : World} {G B : Nat} (v : Value) (hx : x.a = some ⟨G, 0, none⟩) (h : Nums A x) (hne : G ≠ B) : Nums (A.setCell ⟨B, 0, none⟩ v) x := by
  obtain ⟨h1, h2, h0, b, o, h3, h4⟩ := h
  refine ⟨h1, h2, h0, b, o, h3, fun i hi => ?_⟩
  have hb := h3 (by omega)
  rw [hx] at hb
  injection hb with hb
  injection hb with hb _
  subst hb
  exact (World.cell?_of_block (Below.heap_setCell _ _ _ _ (by simpa using hne))).trans (h4 i hi)
theorem Boxed.below {n0 : Nat} {A B : World} {b : Nat} {t : TypeId} {v : Value} (h : Boxed A b t v) (e : Below n0 A B) (hb : b < n0) : Boxed B b t v := (e.block b hb).trans h
theorem boxed_put {A : World} {b : Nat} {t : TypeId} {v : Value} (h : Boxed A b t v) {l : Nat} {o : Obj} (o' : Obj) (hl : A.heap[l]? = some o) (ho : o.isCells = false) : Boxed (A.putObj l o') b t v := by
  have hne : b ≠ l := fun e => by
    have h2 : A.heap[b]? = _ := h
    rw [e, hl] at h2
    injection h2 with h2
    rw [h2] at ho
    cases ho
  exact (World.putObj_heap_other hne).trans h
theorem below_put {n0 : Nat} {A B : World} (h : Below n0 A B) {l : Nat} (o' : Obj) (hl : n0 ≤ l) : Below n0 A (B.putObj l o') := ⟨h.os, h.tape, h.output, by rw [World.putObj_size]; exact h.size, fun k hk => (World.putObj_heap_other (by omega)).trans (h.block k hk)⟩

set_option maxRecDepth 100000 in
set_option maxHeartbeats 2000000 in
theorem Fix_any (k : Nat) (y : Nm) (hz : ∀ x ∈ y.z, 0 ≤ x ∧ x ≤ 15) (hk1 : 1 ≤ k) (hk2 : k ≤ y.z.length) (hn : y.z.length ≤ 9) (w : World) (hy : Nums w y) (tb : TB w) :
    Calls Tryd.prog 5 #[.int .i64 k, y.v] w fun e w' => Ext w w' ∧ ∃ (m : Nm) (X : Int), e = .returned (.tuple #[m.v, .int .i64 X]) ∧ Nums w' m ∧ Told y.z k X m.z := by
  have c1 : Hid (∀ W, Calls Tryd.prog 12 #[.int .i64 k, .int .i64 y.z.length] W fun e w' => e = .returned (.int .i64 0) ∧ w' = W) := fun W => by
    have := counts_any k y.z.length W
    rw [pc_good (by omega) (by omega) (by omega)] at this
    exact this
  have c2 : Hid (∀ W, Ext w W → Calls Tryd.prog 13 #[y.v] W fun e w' => e = .returned (.int .i64 0) ∧ w' = W) := fun W E => by
    have := check_any y W (hy.ext E)
    rw [fe_good hz] at this
    exact this
  have hyv : y.v = .slice y.a y.z.length y.c := rfl
  rw [hyv] at c2 ⊢
  obtain ⟨n, hn0⟩ : ∃ n, y.z.length = n := ⟨_, rfl⟩
  rw [hn0] at c1 c2 ⊢
  have HYV : Hid (y.v = .slice y.a n y.c) := by rw [Hid, ← hn0]
  clear hyv
  have S4 : Hid (∀ o1 o2 o3 o4, Ext w ((((w.alloc o1).alloc o2).alloc o3).alloc o4)) := fun o1 o2 o3 o4 => ((((Ext.refl w).alloc o1).alloc o2).alloc o3).alloc o4
  refine (callsIn_wide (n := 3)).1 ?_
  refine callsIn_of_wp_marks Tryd.func5 rfl trivial ?_ rfl
  simp only [Tryd.ntmps5, List.size_toArray, List.length_cons, List.length_nil, Nat.reduceAdd, Nat.reduceSub, Array.replicate_succ, Array.replicate_zero, List.push_toArray, List.append_toArray, List.nil_append, List.cons_append]
  gi_wp2_with fail
  refine ⟨trivial, ?_⟩
  refine ((callsIn_wide (n := 2)).2 (c1.out _)).mono ?_
  rintro e w' ⟨rfl, rfl⟩
  gi_wp2_with fail
  refine ⟨trivial, ?_⟩
  refine ((callsIn_wide (n := 2)).2 (c2.out _ (S4.out _ _ _ _))).mono ?_
  rintro e w' ⟨rfl, rfl⟩
  clear c1 c2
  gi_wp2_with fail
  refine ⟨trivial, ?_⟩
  refine ((callsIn_wide (n := 2)).2 (choices_any k n _)).mono ?_
  rintro e w' ⟨rfl, rfl⟩
  obtain ⟨WL, hWL⟩ : ∃ WL, WL = (((((w.alloc (.cells #[.int .i64 (k : Int)] 3)).alloc (.cells #[.slice y.a n y.c] 22)).alloc (.cells #[.slice none 0 0] 22)).alloc (.cells #[.int .i64 0] 23)).alloc (.cells #[.int .i64 (k : Int)] 3)).alloc (.cells #[.int .i64 (n : Int)] 3) := ⟨_, rfl⟩
  obtain ⟨b0, b1, b2, b3, b4, b5, szL, EL⟩ := boxes w _ _ _ _ _ _ WL hWL
  simp only [World.size_alloc]
  gi_wp2_with fail
  rw [← hWL]
  clear hWL S4
  have p2 : 2 ^ n ≤ 2 ^ 9 := Nat.pow_le_pow_right (by omega) (by omega)
  -- what a body leans on
  have CK : Hid (∀ V, Below WL.heap.size WL V → V.cell? ⟨w.heap.size, 0, none⟩ = some (.int .i64 (k : Int))) := fun V h => (Boxed.below b0 h (by omega)).cell
  have CL : Hid (∀ V, Below WL.heap.size WL V → V.cell? ⟨w.heap.size + 1, 0, none⟩ = some (.slice y.a n y.c)) := fun V h => (Boxed.below b1 h (by omega)).cell
  have YL : Hid (∀ V, Below WL.heap.size WL V → Nums V y) := fun V h => hy.ext (EL.trans h)
  have B2 : Hid (∀ V, Below WL.heap.size WL V → Boxed V (w.heap.size + 1 + 1) 22 (.slice none 0 0)) := fun V h => Boxed.below b2 h (by omega)
  have B3 : Hid (∀ V, Below WL.heap.size WL V → Boxed V (w.heap.size + 1 + 1 + 1) 23 (.int .i64 0)) := fun V h => Boxed.below b3 h (by omega)
  have TH : Hid (∀ s (x : Nm) V, s < 2 ^ n → pop s = k → Below WL.heap.size WL V → Td s x V → Calls Tryd.prog 15 #[.slice y.a n y.c, x.v] V fun e V' => e = .returned (.slice (some ⟨V.heap.size, 0, none⟩) k k) ∧ Ext V V' ∧ Nums V' ⟨some ⟨V.heap.size, 0, none⟩, k, zl (sd y.z k s)⟩) := fun s x V hs hp hV hx => by
    have hs' : s < 2 ^ y.z.length := by rw [hn0]; exact hs
    have := through_any (fun p => (y.z.getD p 0).toNat) (fun i => (pl s).getD i 0) k y x (set_thr hz (by omega) hk1 hs' hp y x rfl hx.1) V (hy.ext (EL.trans hV)) hx.2
    rw [HYV.out] at this
    exact this.mono fun e V' ⟨h1, h2, h3⟩ => ⟨h1, h2, h3.numsF (by unfold maxLen; omega)⟩
  have SL : Hid (∀ s, s < 2 ^ n → pop s = k → ∀ c ∈ sd y.z k s, c < 16) := fun s hs hp => sd_lt hz (by omega) hk1 (by rw [hn0]; exact hs) hp
  have SK : Hid (∀ s, (sd y.z k s).length = k) := fun s => nl_len _ _
  have MD : Hid (∀ s (A : Nat) V, s < 2 ^ n → pop s = k → Nums V ⟨some ⟨A, 0, none⟩, k, zl (sd y.z k s)⟩ → Calls Tryd.prog 17 #[.slice (some ⟨A, 0, none⟩) k k, .int .i64 n] V fun e V' => e = .returned (.slice (some ⟨V.heap.size, 0, none⟩) n n) ∧ Ext V V' ∧ Nums V' ⟨some ⟨V.heap.size, 0, none⟩, n, zl (nl (ep (sd y.z k s)) n)⟩) := fun s A V hs hp hN => by
    have := made_any (sd y.z k s) (SL.out s hs hp) (by rw [SK.out]; omega) n (by omega) _ rfl V hN
    simp only [Nm.v, zl_len, SK.out] at this
    exact this.mono fun e V' ⟨h1, h2, h3⟩ => ⟨h1, h2, h3.numsF (by unfold maxLen; omega)⟩
  have DF : Hid (∀ s (A : Nat) V, Nums V ⟨some ⟨A, 0, none⟩, n, zl (nl (ep (sd y.z k s)) n)⟩ → Below WL.heap.size WL V → Calls Tryd.prog 16 #[.slice (some ⟨A, 0, none⟩) n n, .slice y.a n y.c] V fun e V' => e = .returned (.int .i64 (sc y.z k s : Nat)) ∧ Ext V V') := fun s A V hN hV => by
    have := differing_any _ y (by simp [hn0]) (by simp; omega) V hN (hy.ext (EL.trans hV))
    rw [HYV.out] at this
    simp only [Nm.v, zl_len, nl_len] at this
    unfold sc
    rw [hn0]
    exact this
  have SC : Hid (∀ s, sc y.z k s ≤ n) := fun s => by
    unfold sc
    rw [hn0]
    exact dfc_le _ _ _
  have tbL := tb.ext EL
  clear hy hz tb HYV
  refine wpIn_rangeE rfl (by omega) (gf := 22) (lb := #[.pointer (some ⟨w.heap.size + 1 + 1 + 1 + 1 + 1, 0, none⟩), .pointer (some ⟨w.heap.size + 1 + 1 + 1 + 1, 0, none⟩)]) rfl trivial (enters_of Tryd.func22 (by kernel_rfl) rfl)
    (choices_in 2 (by omega) n k _ _ (by omega) WL b5 b4 tbL) (fun _ => rfl) (fun s x A l o o' h hl ho => ⟨h.1, nums_put x A l o o' h.2 hl ho⟩)
    (fun s => ∀ t, t < s → ¬ near y.z k t) (fun t ht => absurd ht (Nat.not_lt_zero t)) (fun s hs hn h t ht => by
      rcases Nat.lt_succ_iff_lt_or_eq.1 ht with h' | rfl
      · exact h t h'
      · exact fun h2 => hn h2.1)
    (fun V => ∃ s, ∃ m : Nm, s < 2 ^ n ∧ near y.z k s ∧ (∀ t, t < s → ¬ near y.z k t) ∧ m.z = zl (sd y.z k s) ∧ Nums V m ∧ Below w.heap.size w V ∧ Boxed V (w.heap.size + 1 + 1) 22 m.v ∧ Boxed V (w.heap.size + 1 + 1 + 1) 23 (.int .i64 0))
    (fun A l o o' h hl0 hl ho => by
      obtain ⟨s, m, h1, h2, h3, h4, h5, h6, h7, h8⟩ := h
      exact ⟨s, m, h1, h2, h3, h4, nums_put m A l o o' h5 hl ho, below_put h6 o' (by omega), boxed_put h7 o' hl ho, boxed_put h8 o' hl ho⟩)
    (fun x => { tmps := #[.int .i64 k, .slice y.a n y.c, .pointer (some ⟨w.heap.size, 0, none⟩), .pointer (some ⟨w.heap.size + 1, 0, none⟩), .pointer (some ⟨w.heap.size + 1 + 1, 0, none⟩), .pointer (some ⟨w.heap.size + 1 + 1 + 1, 0, none⟩), .int .i64 0, .int .i64 0, x.v, undef, .int .i64 k, .slice y.a n y.c, .int .i64 n,
      .int .i64 0, .int .i64 0, .bool false, undef, .slice y.a n y.c, .int .i64 0, .int .i64 0, .bool false, undef, .int .i64 k, .slice y.a n y.c, .int .i64 n,
      .func (.func 22) #[] #[.pointer (some ⟨w.heap.size + 1 + 1 + 1 + 1 + 1, 0, none⟩), .pointer (some ⟨w.heap.size + 1 + 1 + 1 + 1, 0, none⟩)], x.v, undef, undef, undef, undef, undef, undef, undef, undef, undef, undef, undef, undef, undef, undef, undef, undef], defers := [] }) ?assign ?body ?done ?stop
  case assign =>
    intro l x W K hK
    gi_wp2
    exact hK
  case body =>
    rintro l s x W hs hp hpre hW hx
    have hcl := CL.out W hW
    have th := CallsIn.inRound l ((callsIn_wide (n := 0)).2 (TH.out s x W hs hp hW hx))
    have HWb : Hid (Below WL.heap.size WL W) := hW
    have HP : Hid (∀ t, t < s → ¬ near y.z k t) := hpre
    have hscl := SC.out s
    have SKs : Hid ((sd y.z k s).length = k) := SK.out s
    have HWz : Hid (w.heap.size + 6 ≤ W.heap.size) := by rw [Hid, ← szL]; exact hW.size
    have DF1 : Hid (∀ (A : Nat) V, Nums V ⟨some ⟨A, 0, none⟩, n, zl (nl (ep (sd y.z k s)) n)⟩ → Below WL.heap.size WL V → Calls Tryd.prog 16 #[.slice (some ⟨A, 0, none⟩) n n, .slice y.a n y.c] V fun e V' => e = .returned (.int .i64 (sc y.z k s : Nat)) ∧ Ext V V') := fun A V => DF.out s A V
    have MD1 : Hid (∀ (A : Nat) V, Nums V ⟨some ⟨A, 0, none⟩, k, zl (sd y.z k s)⟩ → Calls Tryd.prog 17 #[.slice (some ⟨A, 0, none⟩) k k, .int .i64 n] V fun e V' => e = .returned (.slice (some ⟨V.heap.size, 0, none⟩) n n) ∧ Ext V V' ∧ Nums V' ⟨some ⟨V.heap.size, 0, none⟩, n, zl (nl (ep (sd y.z k s)) n)⟩) := fun A V => MD.out s A V hs hp
    have NE : Hid (2 * sc y.z k s + k ≤ n → near y.z k s) := fun h => ⟨hp, by rw [hn0]; exact h⟩
    have NO : Hid (¬ 2 * sc y.z k s + k ≤ n → ∀ t, t < s + 1 → ¬ near y.z k t) := fun h t ht => by
      rcases Nat.lt_succ_iff_lt_or_eq.1 ht with h' | rfl
      · exact hpre t h'
      · exact fun h2 => h (by have := h2.2; rw [hn0] at this; exact this)
    clear TH SL SK MD DF SC hpre hW hx tbL
    generalize x.v = xv at *
    generalize sc y.z k s = c at *
    generalize hzs : zl (sd y.z k s) = ZS at *
    generalize zl (nl (ep (sd y.z k s)) n) = ZM at *
    gi_wp2_with fail
    refine ⟨trivial, ?_⟩
    refine th.mono ?_
    rintro e W1 ⟨rfl, E1, N1⟩
    have HW1 : Hid (Below WL.heap.size WL W1) := HWb.out.trans (E1.mono HWb.out.size)
    have N2 : Hid (Nums W1.drew ⟨some ⟨W.heap.size, 0, none⟩, k, ZS⟩) := N1.ext (ext_drew _)
    have E2 : Hid (Ext W W1.drew) := E1.trans (ext_drew _)
    have HW2 : Hid (Below WL.heap.size WL W1.drew) := HW1.out.drew
    have CL2 : Hid (∀ V, Ext W1.drew V → V.cell? ⟨w.heap.size + 1, 0, none⟩ = some (.slice y.a n y.c)) := fun V h => CL.out V (HW2.out.trans (h.mono HW2.out.size))
    have CK2 : Hid (∀ V, Ext W1.drew V → V.cell? ⟨w.heap.size, 0, none⟩ = some (.int .i64 (k : Int))) := fun V h => CK.out V (HW2.out.trans (h.mono HW2.out.size))
    clear th E1 N1 hcl HWb HW1
    gi_wp2_with fail
    refine wpIn_region_mx (fun V => Ext W1.drew V) 12 (by rfl) (by kernel_rfl) (by kernel_rfl) ?_
    generalize W1.drew = W2 at *
    refine wpMx_take (v := .slice (some ⟨W.heap.size, 0, none⟩) k k) 0 (by rfl) (by kernel_rfl) ⟨by rfl, ?_⟩ ?_
    · rintro V hV
      go_simp
    refine wpMx_take (v := .slice y.a n y.c) 1 (by rfl) (by kernel_rfl) ⟨by rfl, ?_⟩ ?_
    · rintro V hV
      have hc := CL2.out _ hV; go_simp
    refine wpMx_take (v := .int .i64 n) 2 (by rfl) (by kernel_rfl) ⟨by rfl, ?_⟩ ?_
    · rintro V hV
      go_simp
    refine wpMx_take (v := .slice y.a n y.c) 4 (by rfl) (by kernel_rfl) ⟨by rfl, ?_⟩ ?_
    · rintro V hV
      have hc := CL2.out _ hV; go_simp
    refine wpMx_take (v := .slice y.a n y.c) 7 (by rfl) (by kernel_rfl) ⟨by rfl, ?_⟩ ?_
    · rintro V hV
      have hc := CL2.out _ hV; go_simp
    refine wpMx_take (v := .int .i64 n) 8 (by rfl) (by kernel_rfl) ⟨by rfl, ?_⟩ ?_
    · rintro V hV
      go_simp
    refine wpMx_take (v := .int .i64 k) 9 (by rfl) (by kernel_rfl) ⟨by rfl, ?_⟩ ?_
    · rintro V hV
      have hc := CK2.out _ hV; go_simp
    refine wpMx_take (v := .int .i64 ((n : Int) - k)) 10 (by rfl) (by kernel_rfl) ⟨by rfl, ?_⟩ ?_
    · rintro V hV
      go_simp
      exact IntWalk.i64_in _ (by omega)
    refine wpMx_only 3 (by kernel_rfl) (Ext.refl _) ?_
    refine xOp_call (f := 17) (args := #[.slice (some ⟨W.heap.size, 0, none⟩) k k, .int .i64 n]) (w' := W2) (by rfl) (by rfl) ?_ ?_
    · go_simp
    refine (MD1.out _ W2 N2.out).mono ?_
    rintro e W3 ⟨rfl, E3, N3⟩
    refine ⟨_, rfl, ?_⟩
    refine wpMx_only 5 (by kernel_rfl) E3 ?_
    refine xOp_call (f := 16) (args := #[.slice (some ⟨W2.heap.size, 0, none⟩) n n, .slice y.a n y.c]) (w' := W3) (by rfl) (by rfl) ?_ ?_
    · go_simp
    refine (DF1.out _ W3 N3 (HW2.out.trans (E3.mono HW2.out.size))).mono ?_
    rintro e W4 ⟨rfl, E4⟩
    have E5 := E3.trans E4
    refine ⟨_, rfl, ?_⟩
    refine wpMx_take (v := .int .i64 (2 * (c : Int))) 6 (by rfl) (by kernel_rfl) ⟨by rfl, ?_⟩ ?_
    · rintro V hV
      go_simp
      exact IntWalk.i64_in _ (by omega)
    refine wpMx_take (v := .bool (decide (2 * (c : Int) ≤ (n : Int) - k))) 11 (by rfl) (by kernel_rfl) ⟨by rfl, ?_⟩ ?_
    · rintro V hV
      go_simp
    refine wpMx_done (by kernel_rfl) E5 ?_
    simp only [Act.put, List.setIfInBounds_toArray, List.set_cons_zero, List.set_cons_succ]
    have E6 : Ext W W4 := E2.out.trans E5
    have HW4 : Below WL.heap.size WL W4 := HW2.out.trans (E5.mono HW2.out.size)
    have N4 : Nums W4 ⟨some ⟨W.heap.size, 0, none⟩, k, ZS⟩ := N2.out.ext E5
    have x2 := B2.out W4 HW4
    have x3 := B3.out W4 HW4
    have KO : Hid (KeepsOthers W W4) := keeps_ext E6
    have HW5 : Hid (Below WL.heap.size WL W4) := HW4
    by_cases hnr : 2 * c + k ≤ n
    · have hle : 2 * (c : Int) ≤ (n : Int) - (k : Int) := by omega
      have cc2 := x2.cell
      have cc3 := x3.cell
      have cf2 := x2.frozen
      have cf3 := x3.frozen
      have FIN : Hid (KeepsFrom WL.heap.size W ((W4.setCell ⟨w.heap.size + 1 + 1, 0, none⟩ (.slice (some ⟨W.heap.size, 0, none⟩) k k)).setCell ⟨w.heap.size + 1 + 1 + 1, 0, none⟩ (.int .i64 0)) ∧
          ∃ s, ∃ m : Nm, s < 2 ^ n ∧ near y.z k s ∧ (∀ t, t < s → ¬ near y.z k t) ∧ m.z = zl (sd y.z k s) ∧ Nums ((W4.setCell ⟨w.heap.size + 1 + 1, 0, none⟩ (.slice (some ⟨W.heap.size, 0, none⟩) k k)).setCell ⟨w.heap.size + 1 + 1 + 1, 0, none⟩ (.int .i64 0)) m ∧ Below w.heap.size w ((W4.setCell ⟨w.heap.size + 1 + 1, 0, none⟩ (.slice (some ⟨W.heap.size, 0, none⟩) k k)).setCell ⟨w.heap.size + 1 + 1 + 1, 0, none⟩ (.int .i64 0)) ∧ Boxed ((W4.setCell ⟨w.heap.size + 1 + 1, 0, none⟩ (.slice (some ⟨W.heap.size, 0, none⟩) k k)).setCell ⟨w.heap.size + 1 + 1 + 1, 0, none⟩ (.int .i64 0)) (w.heap.size + 1 + 1) 22 m.v ∧ Boxed ((W4.setCell ⟨w.heap.size + 1 + 1, 0, none⟩ (.slice (some ⟨W.heap.size, 0, none⟩) k k)).setCell ⟨w.heap.size + 1 + 1 + 1, 0, none⟩ (.int .i64 0)) (w.heap.size + 1 + 1 + 1) 23 (.int .i64 0)) := by
        have hsz := HWz.out
        refine ⟨((KO.out.trans (KeepsOthers.setCell _ _ _)).trans (KeepsOthers.setCell _ _ _)).from _, s, ⟨some ⟨W.heap.size, 0, none⟩, k, ZS⟩, hs, NE.out hnr, HP.out, hzs.symm, nums_set _ _ rfl (nums_set _ _ rfl N4 (by omega)) (by omega), ?_, ?_, ?_⟩
        · have EB : Below w.heap.size w W4 := Below.trans (b := WL) EL (Below.mono (B := WL.heap.size) HW5.out EL.size)
          exact (EB.setCell (p := ⟨w.heap.size + 1 + 1, 0, none⟩) (by simp; omega) _).setCell (p := ⟨w.heap.size + 1 + 1 + 1, 0, none⟩) (by simp; omega) _
        · have := Boxed.other (Boxed.set (.slice (some ⟨W.heap.size, 0, none⟩) k k) x2) (B' := w.heap.size + 1 + 1 + 1) (by omega) (.int .i64 0)
          simp only [Nm.v, ← hzs]
          have e : (zl (sd y.z k s)).length = k := by rw [zl_len, SKs.out]
          rw [e]
          exact this
        · exact Boxed.set _ (Boxed.other x3 (by omega) _)
      clear KO HW5 NE NO HP x2 x3 N4 E6 HW4 E5 E4 E3 N3
      gi_wp2
      exact FIN.out
    · have hle : ¬ 2 * (c : Int) ≤ (n : Int) - (k : Int) := by omega
      have FIN : Hid (KeepsFrom WL.heap.size W W4 ∧ Below WL.heap.size WL W4 ∧ ∀ t, t < s + 1 → ¬ near y.z k t) := ⟨KO.out.from _, HW5.out, NO.out hnr⟩
      clear KO HW5 NE NO HP x2 x3 N4 E6 HW4 E5 E4 E3 N3
      gi_wp2
      exact FIN.out
  case done =>
    rintro D V hD hp hB hK
    have x2 := B2.out V hB
    have x3 := B3.out V hB
    have cc2 := x2.cell
    have cc3 := x3.cell
    have cf2 := x2.frozen
    have cf3 := x3.frozen
    have HX : Hid (Boxed V (w.heap.size + 1 + 1) 22 (.slice none 0 0) ∧ Boxed V (w.heap.size + 1 + 1 + 1) 23 (.int .i64 0)) := ⟨x2, x3⟩
    have HB : Hid (Below w.heap.size w V) := Below.trans (b := WL) EL (Below.mono (B := WL.heap.size) hB EL.size)
    have HK : Hid (V.heap[D]? = some (.deferred (some []))) := hK
    have HP : Hid (∀ t, t < 2 ^ n → ¬ near y.z k t) := hp
    clear x2 x3 hB hK hp
    gi_wp2
    have y2 := Boxed.other (Boxed.set (.slice none 0 0) HX.out.1) (B' := w.heap.size + 1 + 1 + 1) (by omega) (.int .i64 5)
    have y3 := Boxed.set (.int .i64 5) (Boxed.other HX.out.2 (B' := w.heap.size + 1 + 1) (by omega) (.slice none 0 0))
    have hk2 : ((V.setCell ⟨w.heap.size + 1 + 1, 0, none⟩ (.slice none 0 0)).setCell ⟨w.heap.size + 1 + 1 + 1, 0, none⟩ (.int .i64 5)).heap[D]? = some (.deferred (some [])) := (Below.heap_setCell _ _ _ _ (by simp; omega)).trans ((Below.heap_setCell _ _ _ _ (by simp; omega)).trans HK.out)
    refine ⟨by simp, .inl ⟨_, _, rfl, run_takeDeferred hk2, ?_⟩⟩
    exact ⟨_, res5 _ _ _ _ _ _ rfl rfl (boxed_put y2 _ hk2 rfl).cell (boxed_put y3 _ hk2 rfl).cell, below_put ((HB.out.setCell (p := ⟨w.heap.size + 1 + 1, 0, none⟩) (by simp; omega) _).setCell (p := ⟨w.heap.size + 1 + 1 + 1, 0, none⟩) (by simp; omega) _) _ (by omega), ⟨none, 0, []⟩, 5, rfl, nil_nums _, .inr ⟨rfl, rfl, fun t ht => HP.out t (by rw [← hn0]; exact ht)⟩⟩
  case stop =>
    rintro D V hD ⟨s, m, h1, h2, h3, h4, h5, h6, h7, h8⟩ hK
    have HH : Hid (s < 2 ^ n ∧ near y.z k s ∧ (∀ t, t < s → ¬ near y.z k t) ∧ m.z = zl (sd y.z k s)) := ⟨h1, h2, h3, h4⟩
    have HV : Hid (Nums V m ∧ Below w.heap.size w V ∧ Boxed V (w.heap.size + 1 + 1) 22 m.v ∧ Boxed V (w.heap.size + 1 + 1 + 1) 23 (.int .i64 0)) := ⟨h5, h6, h7, h8⟩
    have HK : Hid (V.heap[D]? = some (.deferred (some []))) := hK
    clear h1 h2 h3 h4 h5 h6 h7 h8 hK
    gi_wp2
    refine ⟨by simp, .inl ⟨_, _, rfl, run_takeDeferred HK.out, ?_⟩⟩
    obtain ⟨v5, v6, v7, v8⟩ := HV.out
    obtain ⟨q1, q2, q3, q4⟩ := HH.out
    exact ⟨_, res5 _ _ _ _ _ _ rfl rfl (boxed_put v7 _ HK.out rfl).cell (boxed_put v8 _ HK.out rfl).cell, below_put v6 _ (by omega), m, 0, rfl, nums_put m V D _ _ v5 HK.out rfl, .inl ⟨rfl, s, by rw [hn0]; exact q1, q2, q3, q4⟩⟩

end Go.Proofs.YtjdipgkdaloclaaDoor
