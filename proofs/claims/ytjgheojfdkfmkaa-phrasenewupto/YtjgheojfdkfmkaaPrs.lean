/-
  phrase.Parse: the phrases of a text.
-/
import Derived.Test.YtjgheojfdkfmkaaLz2
import Derived.Deep.DeepCutAuto
namespace Go.Proofs.Ytjgheojfdkfmkaa
open Go.RowKit Go.Maps

theorem wf64 {q : Nat} (h : q ≤ 1000) : (Lit.int .i64 (q : Int)).wf = true := by
  have e : (Lit.int .i64 (q : Int)).wf = (decide ((-9223372036854775808 : Int) ≤ q) && decide ((q : Int) ≤ 9223372036854775807)) := rfl
  rw [e]
  simp only [Bool.and_eq_true, decide_eq_true_eq]
  omega

/-- Bytes. -/
def Byt (l : List Int) : Prop := ∀ b ∈ l, (Lit.int .u8 b).wf = true

/-- A map's block is no row's. -/
theorem row_map {w : World} {b0 sz n0 n b : Nat} {e k : TypeId} {v : Value} {xs : List Value} {R : Value → Option (DataW Unit × List MemPlace)} {D : DataW Unit} (h : w.ownsRow b0 e sz v n0 xs) (hm : w.ownsMap Try.prog k R b n D) : v.ownBlock ≠ some b := by
  obtain ⟨es, cl, hb, _⟩ := hm
  rcases h.2 with ⟨rfl, _⟩ | ⟨g, cap, cur, rfl, _, hh, _⟩
  · simp [Value.ownBlock]
  · simp only [Value.ownBlock, ne_eq, Option.some.injEq]
    intro e
    rw [e, hb] at hh
    cases hh

/-- What lies in memory at byte k. -/
def Mem (t : List Int) (w wr : World) (v : Value) (B k q : Nat) : Prop :=
  ∃ l p D, OwnP w wr v l ∧ wr.ownsMap Try.prog 35 (plainElem Try.prog 3) B l.length D ∧ PI t k l p q ∧ (k < t.length → MapOk l D) ∧ w.heap.size ≤ B

theorem parse_large (x : Wd) (w : World) (hx : Bits w x) (h : 64 < x.l.length) :
    Calls Try.prog 7 #[x.v] w fun e w' => e = .returned (.tuple #[.slice none 0 0, .int .i64 1]) ∧ w' = w := by
  obtain ⟨a, c, l⟩ := x
  have h1 := hx.1
  have h2 := hx.2.1
  simp only [Wd.v] at *
  unfold maxLen at h2
  clear hx
  generalize l.length = n at *
  have hn : (n : Int) > 64 := by omega
  go_enter Try.func7, Try.ntmps7
  go_wp2
  go_ret2
  exact ⟨rfl, rfl⟩

set_option maxHeartbeats 2000000 in
theorem parse_good (x : Wd) (w : World) (hx : Bits w x) (hb : Byt x.l) (h : x.l.length ≤ 64) :
    Calls Try.prog 7 #[x.v] w fun e w' => ∃ v, e = .returned (.tuple #[v, .int .i64 0]) ∧ OwnP w w' v (phr x.l) := by
  obtain ⟨a, c, l⟩ := x
  obtain ⟨h1, h2, h0, b, o, h3, h4⟩ := hx
  simp only [Wd.v] at *
  obtain ⟨n, hn⟩ : ∃ n, l.length = n := ⟨_, rfl⟩
  have HN : Hid (l.length = n) := hn
  have HB : Hid (Byt l) := hb
  rw [hn] at h1 h h3 h4 ⊢
  clear hn hb h2 h1
  have hn64 : ¬ ((n : Int) > 64) := by omega
  have hmm := @run_makeMap Try.prog
  go_enter Try.func7, Try.ntmps7
  go_wp2_with fail
  have M1 : Hid (Mem l w (w.alloc (.map #[] 0)) (.slice none 0 0) w.heap.size 0 0) :=
    ⟨[], [], .map [], OwnP.nil ((Ext.refl w).alloc _), World.ownsMap_made _ _ _ _, PI.start l, fun _ => MapOk.nil, Nat.le_refl _⟩
  go_loopg [5, 6, 8, 9, 10, 11, 21] n (fun gg v pq _ _ _ _ s wr => ∃ (k q m : Nat) (va : Option Addr) (vc : Nat), k ≤ n ∧ n - k ≤ gg ∧ m ≤ k ∧ q ≤ k ∧ s = .int .i64 k ∧ pq = .int .i64 q ∧ v = .slice va m vc ∧ Aside (Mem l w wr (.slice va m vc) w.heap.size k q))
  case atStart => exact ⟨0, 0, 0, none, 0, by omega, by omega, by omega, by omega, rfl, rfl, rfl, M1.out⟩
  case round =>
    obtain ⟨k, q, m, va, vc, hk, hgg, hmk, hqk, rfl, rfl, rfl, A⟩ := hrel
    clear M1
    by_cases hlt : k < n
    · have hltz : (k : Int) < (n : Int) := by omega
      obtain rfl := h3 (by omega)
      obtain ⟨g, p, D, hO, hM, hP, hD, hB⟩ := A.out
      have e1 := hO.1.cell (h4 k hlt)
      clear h3 h4 A
      have hmg : g.length = m := by
        obtain ⟨_, _, e⟩ := hO.form
        injection e with _ e _
        exact e.symm
      have HMG : Hid (g.length = m) := hmg
      have HP : Hid (PI l k g p q) := hP
      have hwy : (Lit.int .u8 (l.getD k 0)).wf = true := HB.out _ (by
        have : k < l.length := by rw [HN.out]; exact hlt
        simp [List.getD_eq_getElem?_getD, this])
      have hat := hD (by rw [HN.out]; exact hlt) (q : Int) (l.getD k 0) (wf64 (by omega)) hwy
      have HPG : Hid (k + 1 < n → 0 < nm g ((q : Int), l.getD k 0) → PI l (k + 1) g (p ++ [l.getD k 0]) (nm g ((q : Int), l.getD k 0))) := fun h1 h2 => hP.go (by rw [HN.out]; exact h1) h2
      have HPP : Hid (nm g ((q : Int), l.getD k 0) = 0 ∨ k + 1 = n → PI l (k + 1) (g ++ [((q : Int), l.getD k 0)]) [] 0) := fun h1 => hP.put (by rw [HN.out]; exact hlt) (by rw [HN.out]; exact h1)
      have HNW : Hid (nm g ((q : Int), l.getD k 0) = 0 → ((q : Int), l.getD k 0) ∉ g) := PI.new
      have hz1 : nm g ((q : Int), l.getD k 0) ≤ m := by
        unfold nm
        split
        · rename_i h
          have := List.idxOf_lt_length_of_mem h
          omega
        · omega
      have HD : Hid (k < n → MapOk g D) := fun h => hD (by rw [HN.out]; exact h)
      have HO : Hid (OwnP w wr (.slice va m vc) g) := hO
      have HM : Hid (wr.ownsMap Try.prog 35 (plainElem Try.prog 3) w.heap.size g.length D) := hM
      clear hP hD hmg
      generalize l.getD k 0 = y at *
      have hkey : keyOf Try.prog 35 (.agg #[.int .i64 (q : Int), .int .u8 y]) = some (kl q y) := key_kl (wf64 (by omega)) hwy
      obtain ⟨cc, hrun, hat', hwc⟩ := (hM.alloc (.cells #[.int .i64 (q : Int), .int .u8 y] 35)).lookup_int law35 under36 Try.underlying3 (zero3 _) hkey
      rw [hat] at hat'
      injection hat' with hat'
      injection hat' with _ hat'
      subst hat'
      generalize nm g ((q : Int), y) = z at *
      clear hat hO hM hwc hB
      by_cases hgo : 0 < z ∧ k + 1 < n
      · obtain ⟨hz, hkn⟩ := hgo
        have hz' : (z : Int) > 0 := by omega
        have hkn' : (k : Int) < (n : Int) - 1 := by omega
        have N1 : Hid (Mem l w (wr.alloc (.cells #[.int .i64 (q : Int), .int .u8 y] 35)) (.slice va m vc) w.heap.size (k + 1) z) :=
          ⟨g, _, D, HO.out.ext ((Ext.refl _).alloc _), HM.out.alloc _, HPG.out hkn hz, fun _ => HD.out hlt, Nat.le_refl _⟩
        clear HO HM HP HPG HPP HNW HD
        go_wp2
        go_roundg (n - (k + 1))
        case measure => omega
        case rel => exact ⟨k + 1, z, m, va, vc, by omega, by omega, by omega, by omega, by go_num, rfl, rfl, N1.out⟩
      · have hP1 : Hid (PI l (k + 1) (g ++ [((q : Int), y)]) [] 0) := HPP.out (by omega)
        have OW : Hid (OwnP w (wr.alloc (.cells #[.int .i64 (q : Int), .int .u8 y] 35)) (.slice va m vc) g) := HO.out.ext ((Ext.refl _).alloc _)
        have now : Hid (∀ w', ((wr.alloc (.cells #[.int .i64 (q : Int), .int .u8 y] 35)).alloc (.cells #[.int .i64 (q : Int), .int .u8 y] 35)).grownBy w' (Value.slice va m vc).ownBlock →
            w'.heap[wr.heap.size]? = some (.cells #[.int .i64 (q : Int), .int .u8 y] 35) ∧ w'.ownsMap Try.prog 35 (plainElem Try.prog 3) w.heap.size g.length D) := fun w' hg => by
          refine ⟨?_, ?_⟩
          · rw [hg.block _ (by simp; omega) (fun e => ?_), heap_alloc_old _ _ (by simp), heap_alloc_new]
            have := (HO.out.2.lt _ e.symm).2
            omega
          · exact ((HM.out.alloc _).alloc _).kept hg (fun e => row_map HO.out.2 HM.out e.symm)
        have fin : Hid (∀ a' m' c' w2 w3, m' = g.length + 1 → OwnP w w2 (.slice a' m' c') (g ++ [((q : Int), y)]) → w2.grownBy w3 (some w.heap.size) → w3.ownsMap Try.prog 35 (plainElem Try.prog 3) w.heap.size (g.length + 1) (D.put (kl q y) (.lit (.int .i64 (m' : Int)))) → w2.ownsMap Try.prog 35 (plainElem Try.prog 3) w.heap.size g.length D →
            Mem l w w3 (.slice a' m' c') w.heap.size (k + 1) 0) := fun a' m' c' w2 w3 hm' h2 hg h3 h2m => by
          subst hm'
          refine ⟨g ++ [((q : Int), y)], [], D.put (kl q y) (.lit (.int .i64 ((g.length + 1 : Nat) : Int))), ⟨?_, ?_⟩, ?_, hP1.out, fun hlt' => ?_, Nat.le_refl _⟩
          · exact Below.grown h2.1 hg h2.1.size (fun k hk => by injection hk with hk; omega)
          · exact World.ownsRow.kept h2.2 hg (Or.inr (row_map h2.2 h2m))
          · rw [List.length_append, List.length_singleton]; exact h3
          · have hz0 : z = 0 := by have := HN.out; omega
            exact (HD.out hlt).put HM.out.isMap (wf64 (by omega)) hwy (HNW.out hz0)
        have hgl : Hid (g.length ≤ 100000) := by show _ ≤ _; have := HMG.out; omega
        have hgm : Hid (g.length < maxLen) := by show _ < _; unfold maxLen; have := HMG.out; omega
        clear HO HM HP HPG HPP HNW HD
        have hnot : ¬ ((z : Int) > 0 ∧ (k : Int) < (n : Int) - 1) := by omega
        by_cases hz : (z : Int) > 0
        · have hkn : ¬ ((k : Int) < (n : Int) - 1) := fun h => hnot ⟨hz, h⟩
          clear hnot hgo
          go_wp2_with (first
            | (at_builtin; refine wpList_appendPh' rfl _ _ rfl w _ _ (by rfl) g OW.out (q : Int) y _ (by rfl) (by simp) hgl.out ?_; intro a' m' c' w2 hm' hO2' hg2; obtain ⟨hx1, hx2⟩ := now.out w2 hg2; have c0 : w2.cell? ⟨wr.heap.size, 0, none⟩ = some (.int .i64 (q : Int)) := by { rw [cell_of_row _ _ _ _ 35 (0, 0) hx1]; rfl }; have c1 : w2.cell? ⟨wr.heap.size, 1, none⟩ = some (.int .u8 y) := by { rw [cell_of_row _ _ _ _ 35 (0, 0) hx1]; rfl }; have HX2 : Hid (w2.ownsMap Try.prog 35 (plainElem Try.prog 3) w.heap.size g.length D) := hx2; have hO2 : Hid (OwnP w w2 (.slice a' m' c') (g ++ [((q : Int), y)])) := hO2'; have hm : Hid (m' = g.length + 1) := hm'; have hmb : m' ≤ 1000 := by { have := HMG.out; omega }; clear hx1 hx2 hg2 now OW hO2' hm')
            | (at_mapUpdate; refine wpList_mapUpdate_own _ rfl _ _ _ 36 rfl 35 3 law35 under36 _ w.heap.size g.length D rfl HX2.out hgm.out _ _ _ rfl rfl hkey _ [] (plainElem_int Try.underlying3 (wf64 hmb)) ?_; intro w3 hO3 hg3; have HF : Hid (Mem l w w3 (.slice a' m' c') w.heap.size (k + 1) 0) := fin.out a' m' c' w2 w3 hm.out hO2.out hg3 hO3 HX2.out; have hmk' : m' ≤ k + 1 := (by have := HMG.out; have := hm.out; omega); clear fin hO3 hg3 HX2 hO2 hm))
          go_roundg (n - (k + 1))
          case measure => omega
          case rel => exact ⟨k + 1, 0, m', a', c', by omega, by omega, hmk', by omega, by go_num, rfl, rfl, HF.out⟩
        · clear hnot hgo
          go_wp2_with (first
            | (at_builtin; refine wpList_appendPh' rfl _ _ rfl w _ _ (by rfl) g OW.out (q : Int) y _ (by rfl) (by simp) hgl.out ?_; intro a' m' c' w2 hm' hO2' hg2; obtain ⟨hx1, hx2⟩ := now.out w2 hg2; have c0 : w2.cell? ⟨wr.heap.size, 0, none⟩ = some (.int .i64 (q : Int)) := by { rw [cell_of_row _ _ _ _ 35 (0, 0) hx1]; rfl }; have c1 : w2.cell? ⟨wr.heap.size, 1, none⟩ = some (.int .u8 y) := by { rw [cell_of_row _ _ _ _ 35 (0, 0) hx1]; rfl }; have HX2 : Hid (w2.ownsMap Try.prog 35 (plainElem Try.prog 3) w.heap.size g.length D) := hx2; have hO2 : Hid (OwnP w w2 (.slice a' m' c') (g ++ [((q : Int), y)])) := hO2'; have hm : Hid (m' = g.length + 1) := hm'; have hmb : m' ≤ 1000 := by { have := HMG.out; omega }; clear hx1 hx2 hg2 now OW hO2' hm')
            | (at_mapUpdate; refine wpList_mapUpdate_own _ rfl _ _ _ 36 rfl 35 3 law35 under36 _ w.heap.size g.length D rfl HX2.out hgm.out _ _ _ rfl rfl hkey _ [] (plainElem_int Try.underlying3 (wf64 hmb)) ?_; intro w3 hO3 hg3; have HF : Hid (Mem l w w3 (.slice a' m' c') w.heap.size (k + 1) 0) := fin.out a' m' c' w2 w3 hm.out hO2.out hg3 hO3 HX2.out; have hmk' : m' ≤ k + 1 := (by have := HMG.out; have := hm.out; omega); clear fin hO3 hg3 HX2 hO2 hm))
          go_roundg (n - (k + 1))
          case measure => omega
          case rel => exact ⟨k + 1, 0, m', a', c', by omega, by omega, hmk', by omega, by go_num, rfl, rfl, HF.out⟩
    · have U : Hid (OwnP w wr (.slice va m vc) (phr l)) := by
        obtain ⟨g, p, D, hO, hM, hP, hD, hB⟩ := A.out
        have hkl : k = l.length := by have := HN.out; omega
        subst hkl
        rw [hP.done] at hO
        exact hO
      clear A
      go_wp2
      go_ret2
      exact ⟨_, rfl, U.out⟩

end Go.Proofs.Ytjgheojfdkfmkaa
