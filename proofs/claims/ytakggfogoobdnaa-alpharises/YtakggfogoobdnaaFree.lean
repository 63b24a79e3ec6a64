/-
  What prefix.Prefix and quipuref.Prefix answer of a code: whether no word of it begins another one.
-/
import Derived.Test.YtakggfogoobdnaaCheck
namespace Go.Proofs.Ytakggfogoobdnaa
open Go.RowKit

/-- One of two words begins the other one. -/
def clash (x y : List Bool) : Bool := x.isPrefixOf y || y.isPrefixOf x
/-- No word begins another one. -/
def free (g : List Wd) : Bool := decide (g.Pairwise fun x y => clash x.l y.l = false)

theorem free_true {g : List Wd} (h : ∀ i j (hi : i < g.length) (hj : j < g.length), i < j → clash g[i].l g[j].l = false) : free g = true := by
  unfold free
  rw [decide_eq_true_iff, List.pairwise_iff_getElem]
  exact h

theorem free_at {g : List Wd} (h : free g = true) (i j : Nat) (hi : i < g.length) (hj : j < g.length) (hij : i < j) : clash g[i].l g[j].l = false := by
  unfold free at h
  rw [decide_eq_true_iff, List.pairwise_iff_getElem] at h
  exact h i j hi hj hij

theorem free_false {g : List Wd} (i j : Nat) (hi : i < g.length) (hj : j < g.length) (hij : i < j) (h : clash g[i].l g[j].l = true) : free g = false := by
  cases hf : free g with
  | false => rfl
  | true => rw [free_at hf i j hi hj hij] at h; cases h

theorem clash_comm (x y : List Bool) : clash x y = clash y x := by
  unfold clash; exact Bool.or_comm _ _

theorem free_false' {g : List Wd} (i j : Nat) (hi : i < g.length) (hj : j < g.length) (hij : i ≠ j) (h : g[i].l.isPrefixOf g[j].l = true) : free g = false := by
  have hc : clash g[i].l g[j].l = true := by unfold clash; rw [h]; rfl
  rcases Nat.lt_or_gt_of_ne hij with hlt | hlt
  · exact free_false i j hi hj hlt hc
  · exact free_false j i hj hi hlt (by rw [clash_comm]; exact hc)

theorem free_true' {g : List Wd} (h : ∀ i j (hi : i < g.length) (hj : j < g.length), i ≠ j → g[i].l.isPrefixOf g[j].l = false) : free g = true :=
  free_true (fun i j hi hj hij => by unfold clash; rw [h i j hi hj (by omega), h j i hj hi (by omega)]; rfl)


theorem Wds.drop {w : World} {b o c : Nat} {a : Option Addr} {g : List Wd} (hg : Wds w a c g) (ha : a = some ⟨b, o, none⟩) (k : Nat) (hk : k ≤ g.length) : Wds w (some ⟨b, o + k, none⟩) (c - k) (g.drop k) := by
  obtain ⟨h1, h2, h3, b', o', h4, h5⟩ := hg
  refine ⟨by simp; omega, by omega, fun x hx => h3 x (List.mem_of_mem_drop hx), b, o + k, fun _ => rfl, fun i hi => ?_⟩
  have hi' : k + i < g.length := by simp at hi; omega
  have ha' := h4 (by omega)
  rw [ha] at ha'
  simp only [Option.some.injEq, Addr.mk.injEq] at ha'
  obtain ⟨rfl, rfl, _⟩ := ha'
  have := h5 (k + i) hi'
  rw [List.getElem_drop, Nat.add_assoc]
  exact this

theorem Wds.sub {w : World} {a : Option Addr} {c : Nat} {g : List Wd} (hg : Wds w a c g) (i : Nat) (hi : i < g.length) : Bits w g[i] := hg.2.2.1 _ (List.getElem_mem hi)

/-- Whether a word clashes with one of those behind it. -/
def later (g : List Wd) (k : Nat) (y : Wd) : Bool := (g.drop (k + 1)).any (fun x => clash y.l x.l)

theorem later_true {g : List Wd} {k : Nat} (hk : k < g.length) (h : later g k g[k] = true) : free g = false := by
  obtain ⟨x, hx, hc⟩ := List.any_eq_true.1 h
  obtain ⟨j, hj, rfl⟩ := List.mem_iff_getElem.1 hx
  rw [List.getElem_drop] at hc
  have hj' : k + 1 + j < g.length := by simp at hj; omega
  exact free_false k (k + 1 + j) hk hj' (by omega) hc

theorem later_false {g : List Wd} {k : Nat} (hk : k < g.length) (h : later g k g[k] = false) (j : Nat) (hj : j < g.length) (hkj : k < j) : clash g[k].l g[j].l = false := by
  have h' := List.any_eq_false.1 h (g[j]) (by
    rw [List.mem_iff_getElem]
    exact ⟨j - (k + 1), by simp; omega, by rw [List.getElem_drop]; congr 1; omega⟩)
  simpa using h'

end Go.Proofs.Ytakggfogoobdnaa
