/-
  The forest under way in memory: what each part of a round leaves of it.
-/
import Derived.Test.YtakggfogoobdnaaApn
import Derived.Test.YtakggfogoobdnaaStb
import Derived.Test.YtakggfogoobdnaaJoin
import Derived.Test.YtakggfogoobdnaaBmp
import Derived.Test.YtakggfogoobdnaaWts
namespace Go.Proofs.Ytakggfogoobdnaa
open Go.RowKit

/-- Lengths, as they lie in memory. -/
abbrev dv (l : List Nat) : List Value := l.map fun d : Nat => Value.int .i64 (d : Int)

/-- The forest under way, in memory. -/
structure Inv (w0 : World) (L0 n : Nat) (wt : Nat → Nat) (wr : World) (v : Value) (R : List Tr) : Prop where
  ext : Ext w0 wr
  tv : ∃ B, w0.heap.size ≤ B ∧ L0 < B ∧ Tv wr B v R
  ok : ∀ t ∈ R, TrOk (L0 + 1) wr t ∧ t.x = (ws wt t.S : Int)
  forest : Forest wt n (R.map (·.S))
  lens : ∃ l : List Nat, l.length = n ∧ Row wr L0 3 (dv l) ∧ Dep l (R.map (·.S))

theorem Tree.size {S : List (Nat × Nat)} (h : Tree S) : 0 < S.length := h.pos

theorem Forest.small {w : Nat → Nat} {n : Nat} {F : List (List (Nat × Nat))} (h : Forest w n F) {S : List (Nat × Nat)} (hS : S ∈ F) : S.length ≤ n := by
  have h1 := h.all.length_eq
  simp only [List.length_map, List.length_range] at h1
  rw [← h1]
  exact (List.sublist_flatten_of_mem hS).length_le

theorem ws_le {w : Nat → Nat} {M : Nat} : ∀ S : List (Nat × Nat), (∀ p ∈ S, w p.1 ≤ M) → ws w S ≤ S.length * M
  | [], _ => by simp [ws]
  | p :: S, h => by
    have := ws_le S (fun q hq => h q (by simp [hq]))
    have hp := h p (by simp)
    simp only [ws, List.map_cons, List.sum_cons, List.length_cons, Nat.succ_mul] at this ⊢
    omega

theorem Forest.light {w : Nat → Nat} {n : Nat} {F : List (List (Nat × Nat))} (h : Forest w n F) (hn : n ≤ 8) (hw : ∀ i, i < n → w i ≤ 1048576) {S : List (Nat × Nat)} (hS : S ∈ F) : ws w S ≤ 8388608 := by
  have h1 := ws_le (w := w) (M := 1048576) S (fun p hp => hw p.1 (h.lt hS hp))
  have h2 := h.small hS
  have : S.length * 1048576 ≤ 8 * 1048576 := Nat.mul_le_mul_right _ (by omega)
  omega

/-- What the sort leaves. -/
theorem Inv.sorted {w0 : World} {L0 n : Nat} {wt : Nat → Nat} {wr w1 : World} {R R' : List Tr} {B cap : Nat} {pre post : List Value}
    (h : Inv w0 L0 n wt wr (.slice (some ⟨B, pre.length, none⟩) R.length cap) R) (hB : L0 < B) (hr0 : Row wr B 66 (pre ++ fl R ++ post)) (hp : R'.Perm R) (hk : KB B wr w1) :
    (∀ t ∈ R', TrOk (L0 + 1) w1 t ∧ t.x = (ws wt t.S : Int)) ∧ Forest wt n (R'.map (·.S)) ∧ ∃ l : List Nat, l.length = n ∧ Row w1 L0 3 (dv l) ∧ Dep l (R'.map (·.S)) := by
  refine ⟨?_, h.forest.perm (hp.map _).symm, ?_⟩
  · intro t ht
    obtain ⟨h1, h2⟩ := h.ok t (hp.mem_iff.1 ht)
    exact ⟨h1.keep (hk.2 _ h1.lt (h1.ne hr0 (by decide))), h2⟩
  · obtain ⟨l, h1, h2, h3⟩ := h.lens
    refine ⟨l, h1, ?_, fun S hS => h3 S ((hp.map _).mem_iff.1 hS)⟩
    unfold Row at *
    rw [hk.2 _ (lt_of_block h2) (by omega)]
    exact h2

/-- What has been joined. -/
structure Joined (L0 : Nat) (w1 w3 : World) (J : Nat) (t0 t1 : Tr) (g c : Nat) : Prop where
  ext : Ext w1 w3
  new : w1.heap.size ≤ J
  row : Row w3 J 66 [.int .i64 (t0.x + t1.x), .slice (some ⟨g, 0, none⟩) (t0.n + t1.n) c]
  ok : TrOk (L0 + 1) w3 ⟨t0.x + t1.x, g, t0.n + t1.n, c, up (t0.S ++ t1.S)⟩

theorem own_tree {w0 w : World} {g c L : Nat} {x : Int} {base : Nat} {S : List (Nat × Nat)} (h : OwnN w0 w (.slice (some ⟨g, 0, none⟩) L c) (syms S)) (hb : base ≤ w0.heap.size) : TrOk base w ⟨x, g, L, c, S⟩ := by
  obtain ⟨_, h1, h2⟩ := h
  rcases h2 with ⟨h2, _⟩ | ⟨g', cap, cur, hv, hg, hh, hle, hm, hs, ht⟩
  · cases h2
  · injection hv with e1 e2 e3
    injection e1 with e1
    injection e1 with e1
    subst e1
    subst e3
    have hl : (syms S).length = S.length := by simp [syms]
    refine ⟨Nat.le_trans hb hg, by rw [e2, hl], by rw [e2]; exact hle, hm, cur, hh, ?_⟩
    rw [e2]
    simpa using ht

theorem joined_mk {L0 : Nat} {w1 W Wc : World} {J g c L : Nat} {t0 t1 : Tr} {u0 u1 : Value} (hE : Ext w1 W) (hJ : w1.heap.size ≤ J) (hR : Row W J 66 [u0, u1]) (hL : L0 + 1 ≤ w1.heap.size) (hn : t0.n + t1.n = L)
    (hO : OwnN Wc W (.slice (some ⟨g, 0, none⟩) L c) (syms (up (t0.S ++ t1.S)))) (hWc : w1.heap.size ≤ Wc.heap.size) :
    Joined L0 w1 ((W.setCell ⟨J, 0, none⟩ (.int .i64 (t0.x + t1.x))).setCell ⟨J, 0 + 1, none⟩ (.slice (some ⟨g, 0, none⟩) L c)) J t0 t1 g c := by
  subst hn
  have h1 : TrOk (L0 + 1) W ⟨t0.x + t1.x, g, t0.n + t1.n, c, up (t0.S ++ t1.S)⟩ := own_tree hO (by omega)
  refine ⟨(hE.setCell hJ _).setCell hJ _, hJ, ?_, h1.keep ?_⟩
  · have := (hR.set 0 (.int .i64 (t0.x + t1.x))).set 1 (.slice (some ⟨g, 0, none⟩) (t0.n + t1.n) c)
    simpa using this
  · rw [Below.heap_setCell _ _ _ _ (h1.ne hR (by decide)), Below.heap_setCell _ _ _ _ (h1.ne hR (by decide))]

theorem syms_up (S T : List (Nat × Nat)) : syms (up (S ++ T)) = syms S ++ syms T := by simp [syms, up, Function.comp_def]

theorem inv_start (w0 W2 W3 : World) (L0 n : Nat) (z : List Int) (wsl : List Nat) (hzw : z = wsl.map (fun x : Nat => (x : Int))) (hn : z.length = n) (hw : w0.heap.size ≤ L0) (h02 : Ext w0 W2) (hrow : Row W2 L0 3 (dv (List.replicate n 0))) (R : List Tr) (hR : R.length = n)
    (h3 : Row W3 (L0 + 1) 66 (fl R)) (h23 : Ext W2 W3) (hl : ∀ i t, R[i]? = some t → Leaf (L0 + 1) z W3 i t) (h8 : n ≤ 8) : Inv w0 L0 n (fun i => wsl.getD i 0) W3 (.slice (some ⟨L0 + 1, 0, none⟩) n n) R := by
  have hS : R.map (·.S) = (List.range n).map fun i => [(i, 0)] := by
    apply List.ext_getElem?
    intro i
    rw [List.getElem?_map, List.getElem?_map]
    rcases Nat.lt_or_ge i n with h | h
    · have hi : i < R.length := by omega
      rw [List.getElem?_eq_getElem hi, List.getElem?_range h]
      have := (hl i R[i] (List.getElem?_eq_getElem hi)).2.1
      simp [this]
    · rw [List.getElem?_eq_none (by omega), List.getElem?_eq_none (by simpa using h)]
      rfl
  refine ⟨h02.trans h23, ⟨L0 + 1, by omega, by omega, [], [], n, by simp [hR], by simpa using h3, by omega, by simp; omega, by unfold maxLen; omega⟩, ?_, ?_, ?_⟩
  · intro t ht
    obtain ⟨i, hi, rfl⟩ := List.mem_iff_getElem.1 ht
    obtain ⟨l1, l2, l4⟩ := hl i R[i] (List.getElem?_eq_getElem hi)
    refine ⟨l4, ?_⟩
    have hiw : i < wsl.length := by have : z.length = wsl.length := by rw [hzw]; simp
                                    omega
    rw [l1, l2, hzw]
    simp [ws, List.getD_eq_getElem?_getD, hiw]
  · rw [hS]; exact forest_start _ n
  · exact ⟨List.replicate n 0, by simp, hrow.ext h23, by rw [hS]; exact dep_start n⟩

theorem inv_next {w0 w1 wc wi W' : World} {L0 n B B' J g c : Nat} {wt : Nat → Nat} {v' : Value} {t0 t1 : Tr} {R2 : List Tr} {l : List Nat} {pre post : List Value} (JO : Joined L0 w1 wc J t0 t1 g c)
    (OK1 : ∀ t ∈ t0 :: t1 :: R2, TrOk (L0 + 1) w1 t ∧ t.x = (ws wt t.S : Int)) (FO1 : Forest wt n ((t0 :: t1 :: R2).map (·.S))) (hl : l.length = n) (hd : Dep l ((t0 :: t1 :: R2).map (·.S)))
    (hs : (t0 :: t1 :: R2).Pairwise (fun a b => a.x ≤ b.x)) (hB0 : w0.heap.size ≤ B) (hBL : L0 < B) (hrB : Row w1 B 66 (pre ++ fl (t0 :: t1 :: R2) ++ post)) (hrow : Row wi L0 3 (dv (bmp l ((t0.S ++ t1.S).map (·.1))))) (kb1 : KB L0 wc wi) (kb2 : KB B wi W')
    (tv : Tv W' B' v' (R2 ++ [⟨t0.x + t1.x, g, t0.n + t1.n, c, up (t0.S ++ t1.S)⟩])) (hB' : B' = B ∨ wi.heap.size ≤ B') (ext : Ext w0 W') : Inv w0 L0 n wt W' v' (R2 ++ [⟨t0.x + t1.x, g, t0.n + t1.n, c, up (t0.S ++ t1.S)⟩]) := by
  have hc1 := JO.ext.size
  have hBl := hrB.lt
  have kc : Row wc B 66 (pre ++ fl (t0 :: t1 :: R2) ++ post) := hrB.ext JO.ext
  have keep : ∀ t : Tr, TrOk (L0 + 1) wc t → TrOk (L0 + 1) W' t := by
    intro t ht
    have h1 : TrOk (L0 + 1) wi t := ht.keep (kb1.2 _ ht.lt (by have := ht.1; omega))
    exact h1.keep (kb2.2 _ h1.lt (ht.ne kc (by decide)))
  refine ⟨ext, ⟨B', ?_, ?_, tv⟩, ?_, ?_, ?_⟩
  · rcases hB' with rfl | h
    · exact hB0
    · have := kb1.1; omega
  · rcases hB' with rfl | h
    · exact hBL
    · have := kb1.1; omega
  · intro t ht
    rcases List.mem_append.1 ht with ht | ht
    · obtain ⟨h1, h2⟩ := OK1 t (by simp [ht])
      exact ⟨keep t (h1.ext JO.ext), h2⟩
    · simp only [List.mem_singleton] at ht
      subst ht
      refine ⟨keep _ JO.ok, ?_⟩
      have e0 := (OK1 t0 (by simp)).2
      have e1 := (OK1 t1 (by simp)).2
      simp only [ws_up, ws_append]
      omega
  · have hj : Forest wt n (R2.map (·.S) ++ [up (t0.S ++ t1.S)]) := by
      refine Forest.join FO1 ?_ ?_
      · have e0 := (OK1 t0 (by simp)).2
        have e1 := (OK1 t1 (by simp)).2
        have := (List.pairwise_cons.1 hs).1 t1 (by simp)
        omega
      · intro U hU
        obtain ⟨t, ht, rfl⟩ := List.mem_map.1 hU
        have e0 := (OK1 t (by simp [ht])).2
        have e1 := (OK1 t1 (by simp)).2
        have := (List.pairwise_cons.1 (List.pairwise_cons.1 hs).2).1 t ht
        omega
    simpa using hj
  · refine ⟨bmp l ((t0.S ++ t1.S).map (·.1)), by rw [bmp_len]; exact hl, ?_, ?_⟩
    · unfold Row at *
      rw [kb2.2 _ (lt_of_block hrow) (by omega)]
      exact hrow
    · have := dep_join FO1 hl hd
      simpa using this

/-- A symbol's length, on the way. -/
theorem bump_small {wt : Nat → Nat} {n : Nat} {l : List Nat} {S T : List (Nat × Nat)} {F : List (List (Nat × Nat))} (h : Forest wt n (S :: T :: F)) (hl : l.length = n) (hd : Dep l (S :: T :: F)) (k : Nat) (hk : k < ((S ++ T).map (·.1)).length) :
    ((S ++ T).map (·.1))[k] < n ∧ (bmp l (((S ++ T).map (·.1)).take k)).getD ((S ++ T).map (·.1))[k] 0 ≤ 3 * n := by
  have hm : ((S ++ T).map (·.1))[k] ∈ (S ++ T).map (·.1) := List.getElem_mem hk
  obtain ⟨p, hp, hpk⟩ := List.mem_map.1 hm
  have hU : ∃ U ∈ S :: T :: F, p ∈ U := by
    rcases List.mem_append.1 hp with hp | hp
    · exact ⟨S, by simp, hp⟩
    · exact ⟨T, by simp, hp⟩
  obtain ⟨U, hU, hpU⟩ := hU
  have hlt := h.lt hU hpU
  rw [← hpk]
  refine ⟨hlt, ?_⟩
  rw [bmp_at _ _ _ (by rw [hl]; exact hlt), hd U hU p hpU]
  have h1 := (h.tree U hU).deep p hpU
  have h2 := h.small hU
  have h3 : (((S ++ T).map (·.1)).take k).count p.1 ≤ (S ++ T).length := by
    refine Nat.le_trans List.count_le_length ?_
    simp
    omega
  have h4 := h.small (S := S) (by simp)
  have h5 := h.small (S := T) (by simp)
  simp only [List.length_append] at h3
  omega

theorem dv_set (l : List Nat) (i d : Nat) : (dv l).set i (.int .i64 (d : Int)) = dv (l.set i d) := by simp [dv, List.map_set]

theorem Row.len {w : World} {B : Nat} {l : List Nat} (h : Row w B 3 (dv l)) (i : Nat) (hi : i < l.length) : w.cell? ⟨B, i, none⟩ = some (.int .i64 ((l.getD i 0 : Nat) : Int)) := by
  have := h.cell i (by simpa using hi)
  rw [this]
  simp [List.getD_eq_getElem?_getD, hi]

/-- Behind the first two. -/
theorem Tv.rest {w : World} {B o m cap : Nat} {t0 t1 : Tr} {R2 : List Tr} {pre post : List Value} (ho : pre.length = o) (hr : Row w B 66 (pre ++ fl (t0 :: t1 :: R2) ++ post)) (hm : (t0 :: t1 :: R2).length = m) (h1 : m ≤ cap) (h2 : cap * 2 ≤ m * 2 + post.length) (h3 : cap ≤ maxLen) :
    (cap = 2 → Tv w B (.slice (some ⟨B, o, none⟩) 0 0) R2 ∧ m = 2) ∧ (cap ≠ 2 → Tv w B (.slice (some ⟨B, o + 4, none⟩) (m - 2) (cap - 2)) R2) := by
  subst ho
  simp only [List.length_cons] at hm
  have e : pre ++ fl (t0 :: t1 :: R2) ++ post = (pre ++ fl [t0, t1]) ++ fl R2 ++ post := by
    rw [show t0 :: t1 :: R2 = [t0, t1] ++ R2 by rfl, fl_append]; simp
  constructor
  · intro h
    have hR : R2 = [] := List.eq_nil_of_length_eq_zero (by omega)
    subst hR
    refine ⟨⟨pre, fl [t0, t1] ++ post, 0, rfl, ?_, Nat.le_refl _, by simp, by simp [maxLen]⟩, by simp at hm; omega⟩
    simpa [fl] using hr
  · intro h
    refine ⟨pre ++ fl [t0, t1], post, cap - 2, ?_, by rw [← e]; exact hr, by omega, by omega, by omega⟩
    have : R2.length = m - 2 := by omega
    rw [this]
    simp [fl_len]

end Go.Proofs.Ytakggfogoobdnaa
