/-
  field.SumAt: a loop over slices.Backward.
-/
import Derived.Test.YtjdipgkdaloclaaDoorBk
import Derived.Test.YtjdipgkdaloclaaDoorPd
namespace Go.Proofs.YtjdipgkdaloclaaDoor
open Go.RowKit Go.Shelf

attribute [local go_sem] Oper.semAt_some

/-- The sum when some have come, the last one of the list first. -/
def hs (x : Nat) (pre : List (Nat × Fin 16)) : Nat := pre.foldl (fun s p => gm s x ^^^ p.2.val) 0
theorem hs_snoc (x : Nat) (pre : List (Nat × Fin 16)) (p : Nat × Fin 16) : hs x (pre ++ [p]) = gm (hs x pre) x ^^^ p.2.val := by simp [hs]
theorem hs_lt {x : Nat} (hx : x < 16) (pre : List (Nat × Fin 16)) : hs x pre < 16 := by
  have : ∀ (l : List (Nat × Fin 16)) (s : Nat), s < 16 → l.foldl (fun s p => gm s x ^^^ p.2.val) s < 16 := by
    intro l
    induction l with
    | nil => intro s hs; exact hs
    | cons p t ih => intro s hs; exact ih _ (xor_lt (gm_lt hs hx) p.2.isLt)
  exact this pre 0 (by omega)

/-- The list of its own numbers. -/
abbrev fl (zs : List (Fin 16)) : List Nat := zs.map Fin.val

theorem upto_bk (zs : List (Fin 16)) : (upto (bk (fun j => zs.getD j 0) zs.length) zs.length).map Prod.snd = zs.reverse := by
  apply List.ext_getElem
  · simp [upto]
  · intro i h1 h2
    have hi : i < zs.length := by simpa [upto] using h1
    simp only [upto, List.getElem_map, List.getElem_range, bk, List.getElem_reverse]
    rw [List.getD_eq_getElem?_getD, List.getElem?_eq_getElem (by omega)]
    rfl

theorem hs_ev (x : Nat) (zs : List (Fin 16)) : hs x (upto (bk (fun j => zs.getD j 0) zs.length) zs.length) = ev x (fl zs) := by
  have e1 : ∀ (l : List (Nat × Fin 16)) (s : Nat), l.foldl (fun s p => gm s x ^^^ p.2.val) s = (l.map Prod.snd).foldl (fun s c => gm s x ^^^ c.val) s := by
    intro l
    induction l with
    | nil => intro s; rfl
    | cons p t ih => intro s; exact ih _
  rw [hs, e1, upto_bk, List.foldl_reverse]
  induction zs with
  | nil => rfl
  | cons c t ih => show gm _ x ^^^ c.val = gm (ev x (fl t)) x ^^^ c.val; rw [ih]

theorem fin_of {l : List Nat} (h : ∀ c ∈ l, c < 16) : ∃ zs : List (Fin 16), fl zs = l := by
  induction l with
  | nil => exact ⟨[], rfl⟩
  | cons c t ih =>
    obtain ⟨zs, hz⟩ := ih (fun d hd => h d (List.mem_cons_of_mem _ hd))
    exact ⟨⟨c, h c (List.mem_cons_self ..)⟩ :: zs, by show c :: fl zs = _; rw [hz]⟩

set_option maxRecDepth 100000 in
set_option maxHeartbeats 2000000 in
theorem SumAt_fin (zs : List (Fin 16)) (hl : zs.length * 8 ≤ 140737488355328) (x : Nat) (hx : x < 16) (y : Nm) (hy : y.z = (fl zs).map (fun (n : Nat) => (Nat.cast n : Int))) (w : World) (hw : Nums w y) :
    Calls Tryd.prog 26 #[y.v, .int .i64 x] w fun e w' => e = .returned (.int .i64 (ev x (fl zs) : Nat)) ∧ Ext w w' := by
  have hlen : y.z.length = zs.length := by rw [hy]; simp
  obtain ⟨h1, h2, _, b, o, h3, h4⟩ := hw
  rw [hlen] at h1 h3 h4
  have HC : ∀ i, i < zs.length → w.cell? ⟨b, o + i, none⟩ = some (.int .i64 ((zs.getD i 0).val : Int)) := fun i hi => by
    rw [h4 i hi, hy]
    simp [List.getD_eq_getElem?_getD, hi]
  have he := hs_ev x zs
  rw [← he]
  clear he h4 hy
  simp only [Nm.v, hlen]
  clear hlen h1 h2
  obtain ⟨ya, yc, yz⟩ := y
  simp only at *
  obtain ⟨Z, hZ⟩ : ∃ Z : Nat → Fin 16, (fun j => zs.getD j 0) = Z := ⟨_, rfl⟩
  have HC : ∀ i, i < zs.length → w.cell? ⟨b, o + i, none⟩ = some (.int .i64 ((Z i).val : Int)) := fun i hi => by rw [← hZ]; exact HC i hi
  rw [hZ]
  clear hZ
  generalize zs.length = len at *
  refine (callsIn_wide (n := 3)).1 ?_
  refine callsIn_of_wp_marks Tryd.func26 rfl trivial ?_ rfl
  simp only [Tryd.ntmps26, List.size_toArray, List.length_cons, List.length_nil, Nat.reduceAdd, Nat.reduceSub, Array.replicate_succ, Array.replicate_zero, List.push_toArray, List.append_toArray, List.nil_append, List.cons_append]
  have bX := Boxed.new w 3 (.int .i64 x)
  have E1 : Ext w (w.alloc (.cells #[.int .i64 x] 3)) := (Ext.refl w).alloc _
  have sz : (w.alloc (.cells #[.int .i64 x] 3)).heap.size = w.heap.size + 1 := by simp
  have k3 := back_in Fence.wide 2 trivial rfl ya len yc ((w.alloc (.cells #[.int .i64 x] 3)).alloc (.cells #[.int .i64 0] 3))
  rw [World.size_alloc, sz] at k3
  gi_wp2_with fail
  refine ⟨trivial, ?_⟩
  refine k3.mono ?_
  rintro e w' ⟨rfl, rfl⟩
  clear k3
  generalize w.alloc (.cells #[.int .i64 x] 3) = w2 at *
  have bS := Boxed.new w2 3 (.int .i64 0)
  rw [sz] at bS
  have bL := Boxed.new (w2.alloc (.cells #[.int .i64 0] 3)) 22 (.slice ya len yc)
  rw [World.size_alloc, sz] at bL
  have bS4 := bS.alloc (.cells #[.slice ya len yc] 22)
  have bX4 := (bX.alloc (.cells #[.int .i64 0] 3)).alloc (.cells #[.slice ya len yc] 22)
  have E4 : Ext w ((w2.alloc (.cells #[.int .i64 0] 3)).alloc (.cells #[.slice ya len yc] 22)) := (E1.alloc _).alloc _
  have sz4 : ((w2.alloc (.cells #[.int .i64 0] 3)).alloc (.cells #[.slice ya len yc] 22)).heap.size = w.heap.size + 3 := by simp [sz]
  clear bX bS E1 sz
  generalize (w2.alloc (.cells #[.int .i64 0] 3)).alloc (.cells #[.slice ya len yc] 22) = w4 at *
  have hb : 0 < len → b < w.heap.size := fun h => World.block_lt_of_cell? _ _ (HC 0 h)
  have HC4 : ∀ i, i < len → w4.cell? ⟨b, o + i, none⟩ = some (.int .i64 ((Z i).val : Int)) := fun i hi => E4.cell (HC i hi)
  have XL := hs_lt hx
  gi_wp2
  refine wpIn_rangeFunc_ownG rfl (by omega) (gf := 37) (lb := #[.pointer (some ⟨w.heap.size + 1 + 1, 0, none⟩)]) rfl trivial (enters_of Tryd.func37 (by kernel_rfl) rfl)
    (back_stops Fence.wide 2 trivial rfl (by omega) (w.heap.size + 1 + 1) w.heap.size ya b o len yc Z (by omega) hb h3 w4 bL HC4) kb_t (kb_b (by omega) (by omega)) (Below.refl _ _) (fun _ => rfl)
    (fun pre W => (Boxed W (w.heap.size + 1) 3 (.int .i64 (hs x pre : Nat)) ∧ Boxed W w.heap.size 3 (.int .i64 x)) ∧ Below w.heap.size w W)
    (fun _ _ _ => False)
    (OwnFrom.and (OwnFrom.and (Own.from (boxed_own _ _ _) _) (Own.from (boxed_own _ _ _) _)) (ownFrom_below (Nat.le_refl _) (by omega)))
    (fun _ _ _ _ _ h _ _ => h)
    ⟨⟨bS4, bX4⟩, E4⟩
    (fun p => { tmps := #[.slice ya len yc, .int .i64 x, undef, .pointer (some ⟨w.heap.size, 0, none⟩), .int .i64 0, .pointer (some ⟨w.heap.size + 1, 0, none⟩), undef, .int .i64 (p.2.val : Int),
      .slice ya len yc, .func (.func 37) #[] #[.pointer (some ⟨w.heap.size + 1 + 1, 0, none⟩)], .int .i64 (p.1 : Int), .int .i64 (p.2.val : Int), undef, undef, undef, undef, undef, undef], defers := [] }) ?assign ?body ?done ?stop
  case assign =>
    intro l p W K hK
    gi_wp2
    exact hK
  case body =>
    rintro l pre p W ⟨⟨bS, bX⟩, hB⟩ _
    have cS := bS.cell
    have fS := bS.frozen
    have cX := bX.cell
    have l1 := XL pre
    have l2 := gm_lt l1 hx
    have l3 := p.2.isLt
    have e1 := xor_at (a := gm (hs x pre) x) (b := p.2.val) (by omega) (by omega)
    obtain ⟨H2, hH2⟩ : ∃ H2, gm (hs x pre) x ^^^ p.2.val = H2 := ⟨_, rfl⟩
    have HN : Hid (hs x (pre ++ [p]) = H2) := (hs_snoc x pre p).trans hH2
    rw [hH2] at e1
    have c1 := CallsIn.inRound l ((callsIn_wide (n := 0)).2 (product_any (hs x pre) x l1 hx W))
    have BS : Hid (∀ v, Boxed (W.setCell ⟨w.heap.size + 1, 0, none⟩ v) (w.heap.size + 1) 3 v) := fun v => bS.set v
    have BX : Hid (∀ v, Boxed (W.setCell ⟨w.heap.size + 1, 0, none⟩ v) w.heap.size 3 (.int .i64 x)) := fun v => bX.other (by omega) v
    have HB : Hid (Below w.heap.size w W) := hB
    clear hH2 bS bX hB XL
    generalize gm (hs x pre) x = G at *
    generalize p.2.val = q at e1 l3 ⊢
    generalize hs x pre = S0 at *
    gi_wp2_with fail
    refine ⟨trivial, ?_⟩
    refine c1.mono ?_
    rintro e w' ⟨rfl, rfl⟩
    clear c1
    gi_wp2
    exact ⟨(KeepsOthers.setCell _ _ _).from _, ⟨(Below.refl w.heap.size _).setCell (p := ⟨w.heap.size + 1, 0, none⟩) (by simp) _, fun v hv => hv.other (by omega) _⟩, ⟨by rw [HN.out, ← e1]; exact BS.out _, BX.out _⟩, HB.out.setCell (p := ⟨w.heap.size + 1, 0, none⟩) (by simp) _⟩
  case done =>
    rintro D ys W hD rfl ⟨⟨bS, bX⟩, hB⟩ hK
    have cS := bS.cell
    have HB : Hid (Below w.heap.size w W) := hB
    clear bS bX hB
    obtain ⟨R, hR⟩ : ∃ R, hs x (upto (bk Z len) len) = R := ⟨_, rfl⟩
    have HR : Hid (hs x (upto (bk Z len) len) = R) := hR
    rw [hR] at cS
    clear hR
    gi_wp2
    refine ⟨by simp, .inl ⟨_, _, rfl, run_takeDeferred hK, ?_⟩⟩
    exact ⟨_, results_tmp rfl _ _ _, by rw [HR.out]; rfl, HB.out.trans (belowK_b (w := w) (Nat.le_refl _) W D _ _ (by omega) hK rfl rfl)⟩
  case stop =>
    rintro D c pre W _ _ h _
    exact h.elim

/-- The sum of a list of numbers below 16. -/
theorem SumAt_any (l : List Nat) (hl : ∀ c ∈ l, c < 16) (hm : l.length * 8 ≤ 140737488355328) (x : Nat) (hx : x < 16) (y : Nm) (hy : y.z = l.map (fun (n : Nat) => (Nat.cast n : Int))) (w : World) (hw : Nums w y) :
    Calls Tryd.prog 26 #[y.v, .int .i64 x] w fun e w' => e = .returned (.int .i64 (ev x l : Nat)) ∧ Ext w w' := by
  obtain ⟨zs, rfl⟩ := fin_of hl
  exact SumAt_fin zs (by simpa using hm) x hx y hy w hw

end Go.Proofs.YtjdipgkdaloclaaDoor
