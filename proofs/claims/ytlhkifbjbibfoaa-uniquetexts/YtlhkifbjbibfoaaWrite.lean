/-
  What prefix.Write and quipuref.Written answer of a code and symbols: their words, one behind the other.
-/
import Derived.Test.YtlhkifbjbibfoaaFree
import Derived.Test.YtlhkifbjbibfoaaNum
import Derived.Test.YtlhkifbjbibfoaaApp
namespace Go.Proofs.Ytlhkifbjbibfoaa
open Go.RowKit

/-- A symbol without a word. -/
def wordless (n : Nat) (s : Int) : Bool := decide (s < 0) || decide ((n : Int) ≤ s)

set_option maxHeartbeats 400000 in
theorem wordless_any (B n c : Nat) (a : Option Addr) (s : Int) (w : World) (hc : w.cell? ⟨B, 0, none⟩ = some (.slice a n c)) :
    Calls Try.prog 29 (#[.int .i64 s] ++ #[.pointer (some ⟨B, 0, none⟩)]) w fun e w' => e = .returned (.bool (wordless n s)) ∧ Ext w w' := by
  show Calls Try.prog 29 #[.int .i64 s, .pointer (some ⟨B, 0, none⟩)] w _
  by_cases h0 : s < 0
  · have hs : wordless n s = true := by simp [wordless, h0]
    rw [hs]
    clear hs
    go_enter Try.func29, Try.ntmps29
    go_wp2
    go_ret
    exact ⟨rfl, Ext.refl w⟩
  · have hs : wordless n s = decide ((n : Int) ≤ s) := by simp [wordless, h0]
    rw [hs]
    clear hs
    go_enter Try.func29, Try.ntmps29
    go_wp2
    go_ret
    exact ⟨ret_bool (by simp), Ext.refl w⟩

/-- The words of symbols, one behind the other. -/
def written (g : List Wd) (z : List Int) : List Bool := z.flatMap (fun s => (g.getD s.toNat ⟨none, 0, []⟩).l)

theorem written_take (g : List Wd) (z : List Int) (k m : Nat) (hk : k < z.length) (hz : z[k] = (m : Int)) (hm : m < g.length) : written g (z.take (k + 1)) = written g (z.take k) ++ g[m].l := by
  unfold written
  rw [List.take_succ_eq_append_getElem hk, List.flatMap_append, hz]
  simp [List.getD_eq_getElem?_getD, hm]

theorem written_le (g : List Wd) (h8 : ∀ x ∈ g, x.l.length ≤ 8) : ∀ z : List Int, (written g z).length ≤ 8 * z.length
  | [] => by simp [written]
  | s :: r => by
    have h := written_le g h8 r
    have h1 : (g.getD s.toNat ⟨none, 0, []⟩).l.length ≤ 8 := by
      by_cases hs : s.toNat < g.length
      · rw [List.getD_eq_getElem?_getD, List.getElem?_eq_getElem hs]
        exact h8 _ (List.getElem_mem hs)
      · rw [List.getD_eq_getElem?_getD, List.getElem?_eq_none (by omega)]
        simp
    unfold written at h ⊢
    rw [List.flatMap_cons, List.length_append, List.length_cons]
    omega

/-- What is asked of a code and of symbols that are written. -/
structure Fits (g : List Wd) (z : List Int) : Prop where
  bits : ∀ x ∈ g, x.l.length ≤ 8
  many : z.length ≤ 1000
  all : ∀ s ∈ z, 0 ≤ s ∧ s < g.length

set_option maxHeartbeats 1000000 in
theorem written_any (a : Option Addr) (c : Nat) (g : List Wd) (z : Nm) (w : World) (hg : Wds w a c g) (hz : Nums w z) (hf : Fits g z.z) :
    Calls Try.prog 14 #[.slice a g.length c, z.v] w fun e w' => (∃ x : Wd, e = .returned x.v ∧ x.l = written g z.z ∧ Bits w' x) ∧ Ext w w' := by
  have HG : Hid (Wds w a c g) := hg
  obtain ⟨h1, h2, _, b, o, h4, h5⟩ := hg
  obtain ⟨k1, k2, _, zb, zo, k4, k5⟩ := hz
  obtain ⟨za, zc, zz⟩ := z
  simp only [Nm.v] at *
  obtain ⟨n, hn⟩ : ∃ n, g.length = n := ⟨_, rfl⟩
  obtain ⟨m, hm⟩ : ∃ m, zz.length = m := ⟨_, rfl⟩
  have HN : Hid (g.length = n) := hn
  have HM : Hid (zz.length = m) := hm
  have H5 : Hid (∀ i (h : i < g.length), w.cell? ⟨b, o + i, none⟩ = some (g[i].v)) := h5
  have K5 : Hid (∀ i (h : i < zz.length), w.cell? ⟨zb, zo + i, none⟩ = some (.int .i64 zz[i])) := fun i h => by
    have := k5 i h
    rwa [List.getD_eq_getElem?_getD, List.getElem?_eq_getElem h] at this
  have HF : Hid (Fits g zz) := hf
  unfold maxLen at h2 k2
  rw [hn] at h1 h4 ⊢
  rw [hm] at k1 k4 ⊢
  clear hn hm h5 k5 hf
  go_enter Try.func14, Try.ntmps14
  go_wp2
  go_loopg [5, 7, 10] m (fun gg v _ s wr => ∃ k : Nat, k ≤ m ∧ m - k ≤ gg ∧ s = .int .i64 k ∧ Aside (OwnB w wr v (written g (zz.take k))))
  case atStart => exact ⟨0, Nat.zero_le _, by omega, rfl, OwnB.nil (Ext.refl w)⟩
  case round =>
    obtain ⟨k, hk, hgg, rfl, A⟩ := hrel
    by_cases hlt : k < m
    · have hltz : (k : Int) < (m : Int) := by omega
      obtain rfl := k4 (by omega)
      have hkl : k < zz.length := by rw [HM.out]; exact hlt
      have hs := HF.out.all zz[k] (List.getElem_mem hkl)
      obtain ⟨q, hq⟩ := Int.eq_ofNat_of_zero_le hs.1
      have hqn : q < n := by have := HN.out; omega
      have hqz : (q : Int) < (n : Int) := by omega
      have hql : q < g.length := by rw [HN.out]; exact hqn
      obtain rfl := h4 (by omega)
      have e1 := A.out.1.cell (K5.out k hkl)
      rw [hq] at e1
      have e2 := A.out.1.cell (H5.out q hql)
      have hy : Hid (Bits wr g[q]) := (HG.out.sub q hql).ext A.out.1
      have nx : Hid (written g (zz.take (k + 1)) = written g (zz.take k) ++ g[q].l) := written_take g zz k q hkl hq hql
      have le : Hid ((written g (zz.take k)).length + g[q].l.length ≤ 140737488355328) := by
        have t1 := written_le g HF.out.bits (zz.take k)
        have t2 := HF.out.bits g[q] (List.getElem_mem hql)
        have t3 := HF.out.many
        have t4 : (zz.take k).length ≤ zz.length := by simp; omega
        show (written g (zz.take k)).length + g[q].l.length ≤ 140737488355328
        omega
      clear hs hq h4 k4
      generalize g[q] = y at e2 hy nx le
      simp only [Wd.v] at e2
      go_wp2_with (at_builtin; refine wpList_appendBits rfl _ _ rfl w _ u5 (by rfl) _ A.out y (by rfl) hy.out le.out ?_; intro v' w1 B)
      have B' : Hid (OwnB w w1 v' (written g (zz.take (k + 1)))) := by show OwnB w w1 v' _; rw [nx.out]; exact B
      clear B
      go_wp2
      go_roundg (m - (k + 1))
      case measure => omega
      case rel => exact ⟨k + 1, by omega, by omega, by go_num, B'.out⟩
    · obtain ⟨x, hx, hl, hb⟩ := A.out.bits
      have E : Hid (Ext w wr) := A.out.1
      have HL : Hid (x.l = written g zz) := by
        have := HM.out
        rw [List.take_of_length_le (by omega)] at hl
        exact hl
      have HB : Hid (Bits wr x) := hb
      subst hx
      clear A hl hb
      go_wp2
      go_ret
      exact ⟨⟨x, rfl, HL.out, HB.out⟩, E.out⟩

end Go.Proofs.Ytlhkifbjbibfoaa
