/-
  quipuref.trees: the lengths of all trees of so many leaves.
-/
import Derived.Test.YtakggfogoobdnaaLL
import Derived.Test.YtakggfogoobdnaaBst
namespace Go.Proofs.Ytakggfogoobdnaa
open Go.RowKit

/-- From a on, all that lay in w is as it was. -/
def Seg (a : Nat) (w wr : World) : Prop := (∀ k, a ≤ k → k < w.heap.size → wr.heap[k]? = w.heap[k]?) ∧ w.heap.size ≤ wr.heap.size
/-- v's own block lies outside of what was made from a on up to w. -/
def Outs (a : Nat) (w : World) (v : Value) : Prop := ∀ k, v.ownBlock = some k → k < a ∨ w.heap.size ≤ k

theorem Seg.refl (a : Nat) (w : World) : Seg a w w := ⟨fun _ _ _ => rfl, Nat.le_refl _⟩
theorem Seg.ext {a : Nat} {w wr w' : World} (h : Seg a w wr) (e : Ext wr w') : Seg a w w' := ⟨fun k h1 h2 => (e.block k (by have := h.2; omega)).trans (h.1 k h1 h2), Nat.le_trans h.2 e.size⟩
theorem Seg.step {a : Nat} {w W w' : World} {v : Value} (h : Seg a w W) (ho : Outs a w v) (hk : ∀ k, k < W.heap.size → some k ≠ v.ownBlock → w'.heap[k]? = W.heap[k]?) (hs : W.heap.size ≤ w'.heap.size) : Seg a w w' := by
  refine ⟨fun k h1 h2 => ?_, Nat.le_trans h.2 hs⟩
  rw [hk k (by have := h.2; omega) (fun e => by have := ho k e.symm; omega)]
  exact h.1 k h1 h2
theorem Outs.step {a : Nat} {w W : World} {v v' : Value} (h : Outs a w v) (hs : w.heap.size ≤ W.heap.size) (hb : v'.ownBlock = v.ownBlock ∨ ∃ k, v'.ownBlock = some k ∧ W.heap.size ≤ k) : Outs a w v' := by
  intro k hk
  rcases hb with hb | ⟨k', hb, hb'⟩
  · exact h k (by rw [← hb]; exact hk)
  · rw [hb] at hk
    injection hk with hk
    omega

/-- v is a list of these lists, made since w0. -/
def LT (w0 w : World) (v : Value) (T : List (List Nat)) : Prop := Ext w0 w ∧ ∃ G, LL w0.heap.size w v G ∧ G.map (·.z) = T.map lz

theorem LT.ext {w0 w w' : World} {v : Value} {T : List (List Nat)} (h : LT w0 w v T) (e : Ext w w') : LT w0 w' v T := by
  obtain ⟨h1, G, h2, h3⟩ := h
  exact ⟨h1.trans e, G, h2.ext e, h3⟩
theorem LT.outs {w0 w : World} {v : Value} {T : List (List Nat)} (h : LT w0 w v T) (w' : World) : Outs w.heap.size w' v := by
  obtain ⟨_, G, h2, _⟩ := h
  intro k hk
  exact .inl (h2.own.lt k hk).2
theorem LT.form {w0 w : World} {v : Value} {T : List (List Nat)} (h : LT w0 w v T) : ∃ a c, v = .slice a T.length c ∧ T.length ≤ c ∧ c ≤ maxLen := by
  obtain ⟨_, G, h2, h3⟩ := h
  have hl : G.length = T.length := by have := congrArg List.length h3; simpa using this
  rw [← hl]
  exact h2.form

/-- What was answered before is read, though it was appended to another list. -/
theorem LT.read {wA wB : World} {a : Option Addr} {m c : Nat} {T : List (List Nat)} (h : LT wA wB (.slice a m c) T) (i : Nat) (hi : i < T.length) :
    ∃ g x, a = some ⟨g, 0, none⟩ ∧ x.z = lz T[i] ∧ ∀ wr, Seg wA.heap.size wB wr → wr.cell? ⟨g, i, none⟩ = some (Nm.v x) ∧ Nums wr x := by
  obtain ⟨_, G, h2, h3⟩ := h
  have hl : G.length = T.length := by have := congrArg List.length h3; simpa using this
  obtain ⟨g, h5, _⟩ := h2.at i (by omega)
  refine ⟨g, G[i], h5, ?_, fun wr e => ?_⟩
  · have h7 : (G.map (·.z))[i]? = (T.map lz)[i]? := by rw [h3]
    rw [List.getElem?_map, List.getElem?_map, List.getElem?_eq_getElem (by omega), List.getElem?_eq_getElem hi] at h7
    simpa using h7
  · have h4 := h2.seg e.1
    obtain ⟨g', h5', h6⟩ := h4.at i (by omega)
    rw [h5] at h5'
    simp only [Option.some.injEq, Addr.mk.injEq, and_true] at h5'
    subst h5'
    exact ⟨h6, (h4.ok _ (List.getElem_mem _)).1.1⟩

/-- A list of numbers of one's own may be put behind. -/
theorem ownT {w1 w : World} {v : Value} {z : List Int} (h : OwnN w1 w v z) (hp : 0 < z.length) : ∃ y : Nm, v = y.v ∧ y.z = z ∧ NumsT w y ∧ ∀ p, y.a = some p → w1.heap.size ≤ p.block := by
  have h0 := h
  obtain ⟨y, hv, hz, hn⟩ := h.nums
  obtain ⟨_, _, h2⟩ := h0
  rcases h2 with ⟨_, h2⟩ | ⟨g, cap, cur, hv', hg, hc, _⟩
  · omega
  · rw [hv] at hv'
    injection hv' with e1 e2 e3
    refine ⟨y, hv, hz, ⟨hn, fun p hp => ?_⟩, fun p hp => ?_⟩
    · rw [e1] at hp
      injection hp with hp
      rw [← hp]
      exact ⟨cur, (0, 0), hc⟩
    · rw [e1] at hp
      injection hp with hp
      rw [← hp]
      exact hg

theorem wpList_appendLT {ops : Array Oper} {rest : List Oper} {o : Oper} {a : Act} {Q : Exit → Act → World → Prop} (hgd : o.guard = none) (s x : Operand)
    (ho : o.op = .call { callee := .builtin .append, args := #[s, x], argTypes := #[49, 49] }) (w0 w1 W : World) (v : Value) (hs : a.eval s = v) (T : List (List Nat)) (hT : LT w0 W v T)
    (l : List Nat) (yv : Value) (hown : OwnN w1 W yv (lz l)) (h01 : w0.heap.size ≤ w1.heap.size) (hpos : 0 < l.length) (k : Nat) (hx : a.eval x = .slice (some ⟨k, 0, none⟩) 1 1) (hk : k = W.heap.size) (hl : T.length ≤ 900000000)
    (K : ∀ v' w', LT w0 w' v' (T ++ [l]) → (∀ k, k < W.heap.size → some k ≠ v.ownBlock → w'.heap[k]? = W.heap[k]?) → W.heap.size ≤ w'.heap.size → (v'.ownBlock = v.ownBlock ∨ ∃ k, v'.ownBlock = some k ∧ W.heap.size ≤ k) → wpList Try.prog ops Q rest (a.put o.dst v') w') :
    wpList Try.prog ops Q (o :: rest) a (W.alloc (.cells #[yv] 27)) := by
  obtain ⟨hE, G, hG, hGT⟩ := hT
  obtain ⟨y, hyv, hyz, hyn, hyb⟩ := ownT hown (by rw [lz_length]; exact hpos)
  have hGl : G.length = T.length := by have := congrArg List.length hGT; simpa using this
  refine wpList_appendLL hgd s x ho w0.heap.size W v hs G hG y yv hyv k hx hk ⟨hyn, fun p hp => Nat.le_trans h01 (hyb p hp)⟩ hE.size (by omega) ?_
  intro v' w' h1 h0 h2 h3 h4
  exact K v' w' ⟨h0 w0 (Nat.le_refl _) hE, G ++ [y], h1, by simp [hGT, hyz]⟩ h2 h3 h4

/-- What quipuref.trees answers. -/
def TreesC (k : Nat) : Prop := ∀ (n : Nat) (w : World), n ≤ k → n ≤ 8 → Calls Try.prog 25 #[.int .i64 n] w fun e w' => ∃ (v : Value) (T : List (List Nat)), e = .returned v ∧ LT w w' v T ∧ (∀ l, l ∈ T ↔ TT n l) ∧ T.length ≤ 16 ^ (n - 1)

set_option maxHeartbeats 1000000 in
theorem trees_zero (w : World) : Calls Try.prog 25 #[.int .i64 (0 : Nat)] w fun e w' => ∃ (v : Value) (T : List (List Nat)), e = .returned v ∧ LT w w' v T ∧ (∀ l, l ∈ T ↔ TT 0 l) ∧ T.length ≤ 16 ^ (0 - 1) := by
  go_enter Try.func25, Try.ntmps25
  go_wp2
  go_ret
  refine ⟨_, [[]], rfl, ⟨(Ext.refl w).alloc _, [⟨none, 0, []⟩], ⟨?_, ?_⟩, rfl⟩, fun l => ?_, by simp⟩
  · exact World.ownsRow_lit w #[.slice none 0 0] 1 (Nat.le_refl _) (by unfold maxLen; omega) rfl
  · intro x hx
    simp only [List.mem_singleton] at hx
    subst hx
    exact ⟨⟨⟨by simp, by simp, by simp, 0, 0, by simp, by simp⟩, fun p hp => by cases hp⟩, fun p hp => by cases hp⟩
  · constructor
    · intro h
      simp only [List.mem_singleton] at h
      subst h
      exact TT.nil
    · intro h
      rw [h.zero]
      simp

set_option maxHeartbeats 1000000 in
theorem trees_one (w : World) : Calls Try.prog 25 #[.int .i64 (1 : Nat)] w fun e w' => ∃ (v : Value) (T : List (List Nat)), e = .returned v ∧ LT w w' v T ∧ (∀ l, l ∈ T ↔ TT 1 l) ∧ T.length ≤ 16 ^ (1 - 1) := by
  go_enter Try.func25, Try.ntmps25
  go_wp2
  go_ret
  refine ⟨_, [[0]], rfl, ⟨((Ext.refl w).alloc _).alloc _, [⟨some ⟨w.heap.size, 0, none⟩, 1, [0]⟩], ⟨?_, ?_⟩, rfl⟩, fun l => ?_, by simp⟩
  · have := World.ownsRow_lit (base := w.heap.size) (e := 27) (size := 1) (w.alloc (.cells #[.int .i64 0] 3)) #[.slice (some ⟨w.heap.size, 0, none⟩) 1 1] 1 (by simp) (by unfold maxLen; omega) rfl
    simp only [World.size_alloc] at this
    exact this
  · intro x hx
    simp only [List.mem_singleton] at hx
    subst hx
    have hr : Row (w.alloc (.cells #[.int .i64 0] 3)) w.heap.size 3 [.int .i64 0] := heap_alloc_new w _
    have hr2 := hr.ext ((Ext.refl (w.alloc (.cells #[.int .i64 0] 3))).alloc (.cells #[.slice (some ⟨w.heap.size, 0, none⟩) 1 1] 27))
    refine ⟨⟨Row.nums (z := [0]) hr2 (by simp [maxLen]), fun p hp => ?_⟩, fun p hp => ?_⟩
    · simp only [Option.some.injEq] at hp
      subst hp
      exact ⟨_, _, hr2⟩
    · simp only [Option.some.injEq] at hp
      subst hp
      exact Nat.le_refl _
  · constructor
    · intro h
      simp only [List.mem_singleton] at h
      subst h
      exact TT.one
    · intro h
      rw [h.is_one]
      simp

end Go.Proofs.Ytakggfogoobdnaa
