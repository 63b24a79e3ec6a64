/-
  quipuref.Turned's first loop: all turns, laid out.
-/
import Derived.Test.YtkccdhidmihekaaAh
import Derived.Test.YtkccdhidmihekaaLw
import Derived.Test.YtkccdhidmihekaaMix
import Derived.Test.YtkccdhidmihekaaTu3
namespace Go.Proofs.Ytkccdhidmihekaa
open Go.RowKit

theorem OwnB.base {w w1 w2 : World} {v : Value} {l : List Int} (e : Ext w w1) (h : OwnB w1 w2 v l) : OwnB w w2 v l := by
  obtain ⟨h1, h2, h3⟩ := h
  refine ⟨e.trans h1, h2, ?_⟩
  rcases h3 with h3 | ⟨g, cap, cur, hv, hg, r⟩
  · exact .inl h3
  · exact .inr ⟨g, cap, cur, hv, Nat.le_trans e.size hg, r⟩

theorem OwnB.noneMade (w : World) : OwnB w (w.alloc (.cells #[] 5)) (.slice (some ⟨w.heap.size, 0, none⟩) 0 0) [] :=
  ⟨(Ext.refl w).alloc _, by simp, .inr ⟨w.heap.size, 0, #[], rfl, Nat.le_refl _, heap_alloc_new w _, Nat.le_refl _, by simp, by simp, by simp⟩⟩

theorem run_appendBits (ty : TypeId) (w0 w : World) (v : Value) (l : List Int) (hown : OwnB w0 w v l) (ad : Addr) (c : Nat) (r : List Int) (hy : Bits w ⟨some ad, c, r⟩) (hb : l.length + r.length ≤ 140737488355328) :
    ∃ v' w', (Builtin.append_ #[22, 22] ty #[v, .slice (some ad) r.length c]).run Try.prog w = .ok v' w' ∧ OwnB w0 w' v' (l ++ r) := by
  obtain ⟨i0, hi, hz0, hz1, hz2⟩ := info_parts info5
  obtain ⟨he, hown⟩ := hown
  obtain ⟨y1, y2, y0, b, off, y3, y4⟩ := hy
  simp only at y0 y1 y2 y3 y4
  obtain ⟨v', w', h1, h2, h3, _⟩ := run_append_own (P := Try.prog) w w0.heap.size 22 ty 5 i0 (.int .u8 0) 1 1 Try.underlying22 hi hz0 hz1 hz2 rfl (by decide) v l.length (l.map (Value.int .u8)) hown ad r.length c (r.map (Value.int .u8)) (by simp)
    (by
      intro j u hj
      have hj' : j < r.length := by
        rcases Nat.lt_or_ge j r.length with h' | h'
        · exact h'
        · rw [List.getElem?_eq_none (by simpa using h')] at hj; cases hj
      have had := y3 (by omega)
      simp only [Option.some.injEq] at had
      subst had
      rw [Addr.add_lit, y4 j hj']
      simp [hj'] at hj
      simp [List.getD_eq_getElem?_getD, hj', hj])
    (by
      intro u hu
      obtain ⟨q, _, rfl⟩ := List.mem_map.1 hu
      rfl) (by unfold maxLen; omega) (by omega) he.size
  refine ⟨v', w', h1, ?_, ?_⟩
  · exact Below.grown he h3 he.size (fun k hk => (hown.lt k hk).1)
  · rw [List.length_append, List.map_append]
    exact h2

theorem LW.nil (w : World) : LW w w (.slice none 0 0) [] := ⟨Ext.refl w, World.ownsRow_nil _ _ _ _, fun x hx => by simp at hx⟩

/-- All turns up to k, laid out. -/
def TL (t : List Int) (w wr : World) (v : Value) (k : Nat) : Prop := ∃ X : List Wd, LW w wr v X ∧ X.map (·.l) = (List.range k).map (rot t)

theorem TL.len {t : List Int} {w wr : World} {a : Option Addr} {m c k : Nat} (h : TL t w wr (.slice a m c) k) : m = k := by
  obtain ⟨X, hX, hT⟩ := h
  have h1 := hX.w.len
  have h2 := congrArg List.length hT
  simp at h2
  omega

theorem TL.at {t : List Int} {w wr : World} {a : Option Addr} {m c k : Nat} (h : TL t w wr (.slice a m c) k) {j : Nat} (hj : j < k) : ∃ G za zc, a = some ⟨G, 0, none⟩ ∧ wr.cell? ⟨G, j, none⟩ = some (.slice za t.length zc) ∧ Bits wr ⟨za, zc, rot t j⟩ := by
  obtain ⟨X, hX, hT⟩ := h
  have h2 := congrArg List.length hT
  simp at h2
  have hjX : j < X.length := by omega
  obtain ⟨G, hG, hc⟩ := hX.w.at j hjX
  have hl : X[j].l = rot t j := by
    have := congrArg (fun q => q[j]?) hT
    simpa [hjX, hj] using this
  have hb := (hX.ok _ (List.getElem_mem hjX)).bits
  refine ⟨G, X[j].a, X[j].c, hG, ?_, ?_⟩
  · rw [hc, Wd.v, hl, rot_length]
  · rw [← hl]
    exact hb

end Go.Proofs.Ytkccdhidmihekaa
