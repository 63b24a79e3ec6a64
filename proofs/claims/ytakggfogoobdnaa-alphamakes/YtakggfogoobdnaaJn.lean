/-
  alpha.join, by what alpha.best answers of shorter lists.
-/
import Derived.Test.YtakggfogoobdnaaCmp2
namespace Go.Proofs.Ytakggfogoobdnaa
open Go.RowKit

theorem lz_length (v : List Nat) : (lz v).length = v.length := by simp [lz]
theorem lz_take (v : List Nat) (s : Nat) : lz (v.take s) = (lz v).take s := by simp [lz, List.map_take]
theorem lz_drop (v : List Nat) (s : Nat) : lz (v.drop s) = (lz v).drop s := by simp [lz, List.map_drop]
theorem lz_append (a b : List Nat) : lz (a ++ b) = lz a ++ lz b := by simp [lz]

theorem Nums.take {w : World} {a : Option Addr} {c s : Nat} {z : List Int} (h : Nums w ⟨a, c, z⟩) (_hs : s ≤ z.length) : Nums w ⟨a, c, z.take s⟩ := by
  obtain ⟨h1, h2, h0, b, o, h3, h4⟩ := h
  simp only at h1 h2 h0 h3 h4
  refine ⟨by simp; omega, h2, h0, b, o, fun h => h3 (by simp at h; omega), fun i hi => ?_⟩
  simp only [List.length_take] at hi
  rw [h4 i (by omega)]
  simp [List.getD_eq_getElem?_getD, show i < s by omega]

theorem Nums.drop {w : World} {b o c s : Nat} {z : List Int} (h : Nums w ⟨some ⟨b, o, none⟩, c, z⟩) (hs : s < z.length) : Nums w ⟨some ⟨b, o + s, none⟩, c - s, z.drop s⟩ := by
  obtain ⟨h1, h2, h0, b', o', h3, h4⟩ := h
  simp only at h1 h2 h0 h3 h4
  have e := h3 (by omega)
  simp only [Option.some.injEq, Addr.mk.injEq, and_true] at e
  obtain ⟨rfl, rfl⟩ := e
  refine ⟨by simp; omega, by simp only; omega, by simp, b, o + s, fun _ => rfl, fun i hi => ?_⟩
  simp only [List.length_drop] at hi
  rw [show o + s + i = o + (s + i) by omega, h4 (s + i) (by omega)]
  simp [List.getD_eq_getElem?_getD]

/-- A number stored into a list of one's own. -/
theorem ownN_set {w0 w : World} {g n c : Nat} {z : List Int} (h : OwnN w0 w (.slice (some ⟨g, 0, none⟩) n c) z) (hn : z.length = n) (i : Nat) (y : Int) : OwnN w0 (w.setCell ⟨g, i, none⟩ (.int .i64 y)) (.slice (some ⟨g, 0, none⟩) n c) (z.set i y) := by
  subst hn
  have h1 := (h.2.stored i (.int .i64 y)).1
  have h2 := (h.2.lt g rfl).1
  refine ⟨h.1.setCell h2 _, ?_⟩
  rw [List.length_set, List.map_set]
  exact h1

theorem ownN_ne_row {w0 w : World} {g n c J : Nat} {z : List Int} {t : TypeId} {l : List Value} (h : OwnN w0 w (.slice (some ⟨g, 0, none⟩) n c) z) (hr : Row w J t l) (ht : t ≠ 3) : g ≠ J := by
  rintro rfl
  obtain ⟨_, _, h2⟩ := h
  rcases h2 with ⟨h2, _⟩ | ⟨g', cap, cur, hv, _, hc, _⟩
  · simp at h2
  · simp only [Value.slice.injEq, Option.some.injEq, Addr.mk.injEq, and_true] at hv
    obtain ⟨rfl, _⟩ := hv
    unfold Row at hr
    rw [hr] at hc
    simp only [Option.some.injEq, Obj.cells.injEq] at hc
    exact ht hc.2.1

theorem ownN_at {w0 w : World} {g n c : Nat} {z : List Int} (h : OwnN w0 w (.slice (some ⟨g, 0, none⟩) n c) z) (hn : z.length = n) (i : Nat) (hi : i < n) : w.cell? ⟨g, i, none⟩ = some (.int .i64 (z.getD i 0)) ∧ w.frozen? ⟨g, i, none⟩ = false := by
  subst hn
  refine ⟨?_, h.2.frozenAt i⟩
  rw [h.2.cellAt i (by omega)]
  simp [List.getD_eq_getElem?_getD, hi]

set_option maxHeartbeats 1000000 in
theorem storeP (ρ : Operand → Value) (o : Oper) (p v : Operand) (ho : o.op = .store 47 p v) (W : World) (B : Nat) (hp : ρ p = .pointer (some ⟨B, 0, none⟩)) (x : Int) (y : Value) (hy : ∃ a n c, y = .slice a n c) (hv : ρ v = .agg #[.int .i64 x, y])
    (u0 u1 : Value) (k1 : W.cell? ⟨B, 0, none⟩ = some u0) (k2 : W.cell? ⟨B, 1, none⟩ = some u1) (k3 : ∀ i, W.frozen? ⟨B, i, none⟩ = false) :
    (execOp ρ o).run Try.prog W = .ok .skip ((W.setCell ⟨B, 0, none⟩ (.int .i64 x)).setCell ⟨B, 1, none⟩ y) := by
  obtain ⟨a, n, c, rfl⟩ := hy
  unfold execOp
  simp only [ho]
  go_simp

/-- A plan in memory. -/
def Plan (w : World) (B : Nat) (x : Int) (y : Value) : Prop := Row w B 47 [.int .i64 x, y]
theorem Plan.c0 {w : World} {B : Nat} {x : Int} {y : Value} (h : Plan w B x y) : w.cell? ⟨B, 0, none⟩ = some (.int .i64 x) := Row.cell h 0 (by simp)
theorem Plan.c1 {w : World} {B : Nat} {x : Int} {y : Value} (h : Plan w B x y) : w.cell? ⟨B, 1, none⟩ = some y := Row.cell h 1 (by simp)
theorem Plan.fr {w : World} {B : Nat} {x : Int} {y : Value} (h : Plan w B x y) (i : Nat) : w.frozen? ⟨B, i, none⟩ = false := Row.fr h i
theorem Plan.ext {w w' : World} {B : Nat} {x : Int} {y : Value} (h : Plan w B x y) (e : Ext w w') : Plan w' B x y := Row.ext h e
theorem Plan.put {w : World} {B : Nat} {x : Int} {y : Value} (h : Plan w B x y) (x' : Int) (y' : Value) : Plan ((w.setCell ⟨B, 0, none⟩ (.int .i64 x')).setCell ⟨B, 1, none⟩ y') B x' y' := (Row.set h 0 (.int .i64 x')).set 1 y'
theorem Plan.put0 {w : World} {B : Nat} {x : Int} {y : Value} (h : Plan w B x y) (x' : Int) : Plan (w.setCell ⟨B, 0, none⟩ (.int .i64 x')) B x' y := Row.set h 0 (.int .i64 x')
theorem Plan.other {w : World} {B : Nat} {x : Int} {y : Value} (h : Plan w B x y) {B' i : Nat} (hb : B' ≠ B) (u : Value) : Plan (w.setCell ⟨B', i, none⟩ u) B x y := Row.other h _ hb u
theorem Plan.new (w : World) : Plan (w.alloc (.cells #[.int .i64 0, .slice none 0 0] 47)) w.heap.size 0 (.slice none 0 0) := heap_alloc_new w _
theorem ownN_plan {w0 w : World} {v y : Value} {z : List Int} {B i : Nat} {x : Int} {u : Value} (h : OwnN w0 w v z) (hr : Plan w B x y) (hB : w0.heap.size ≤ B) : OwnN w0 (w.setCell ⟨B, i, none⟩ u) v z := h.other hr (by decide) hB

/-- The first k one longer. -/
def upk (k : Nat) (l : List Nat) : List Nat := up1 (l.take k) ++ l.drop k
theorem upk_zero (l : List Nat) : upk 0 l = l := by simp [upk]
theorem upk_all (l : List Nat) : upk l.length l = up1 l := by simp [upk]
theorem upk_length (k : Nat) (l : List Nat) : (upk k l).length = l.length := by
  simp [upk]; omega
theorem upk_get (k : Nat) (l : List Nat) (hk : k < l.length) : (upk k l).getD k 0 = l.getD k 0 := by
  unfold upk
  have h1 : (up1 (l.take k)).length = k := by simp; omega
  rw [List.getD_eq_getElem?_getD, List.getElem?_append_right (by omega), h1, Nat.sub_self, List.getElem?_drop, List.getD_eq_getElem?_getD]
  simp
theorem upk_succ (k : Nat) (l : List Nat) (hk : k < l.length) : (upk k l).set k (l.getD k 0 + 1) = upk (k + 1) l := by
  have hg : l.getD k 0 = l[k] := by simp [List.getD_eq_getElem?_getD, hk]
  unfold upk
  have h1 : (up1 (l.take k)).length = k := by simp; omega
  rw [List.set_append_right _ _ (by omega), h1, Nat.sub_self, List.drop_eq_getElem_cons hk, List.set_cons_zero, List.take_succ_eq_append_getElem hk, hg]
  simp only [up1, List.map_append, List.map_cons, List.map_nil, List.append_assoc, List.singleton_append]

/-- What alpha.best answers of lists of so many weights. -/
def BestC (k : Nat) : Prop := ∀ (x : Nm) (v : List Nat) (w : World), Nums w x → x.z = lz v → v.length ≤ k → v.length ≤ 8 → (∀ u ∈ v, u ≤ 1048576) →
  Calls Try.prog 24 #[x.v] w fun e w' => ∃ (l : List Nat) (g c : Nat), e = .returned (.agg #[.int .i64 (dot v l : Nat), .slice (some ⟨g, 0, none⟩) v.length c]) ∧ OwnN w w' (.slice (some ⟨g, 0, none⟩) v.length c) (lz l) ∧ Opt v l

/-- What alpha.join answers. -/
def JoinC (k : Nat) : Prop := ∀ (x : Nm) (v : List Nat) (w : World) (s : Nat), Nums w x → x.z = lz v → 0 < s → s < v.length → v.length ≤ k → v.length ≤ 8 → (∀ u ∈ v, u ≤ 1048576) →
  Calls Try.prog 35 #[x.v, .int .i64 s] w fun e w' => ∃ (a b : List Nat) (g c : Nat), e = .returned (.agg #[.int .i64 (dot v (up1 (a ++ b)) : Nat), .slice (some ⟨g, 0, none⟩) v.length c]) ∧
    OwnN w w' (.slice (some ⟨g, 0, none⟩) v.length c) (lz (up1 (a ++ b))) ∧ Opt (v.take s) a ∧ Opt (v.drop s) b

end Go.Proofs.Ytakggfogoobdnaa
