/-
  quipukeep.PhraseNew: the walk.
-/
import Derived.Test.YtjgheojfdkfmkaaPrs
import Derived.Test.YtjgheojfdkfmkaaSame
import Derived.BigQuiet
namespace Go.Proofs.Ytjgheojfdkfmkaa
open Go.RowKit
set_option linter.unusedVariables false

theorem OwnB.empty (w : World) : OwnB w (w.alloc (.cells #[] 5)) (.slice (some ⟨w.heap.size, 0, none⟩) 0 0) [] :=
  ⟨(Ext.refl w).alloc _, by simp, .inr ⟨w.heap.size, 0, #[], rfl, Nat.le_refl _, heap_alloc_new w _, by simp, by unfold maxLen; omega, rfl, rfl⟩⟩

theorem parse_some (x : Wd) (w : World) (hx : Bits w x) (hb : Byt x.l) : Calls Try.prog 7 #[x.v] w fun e w' => ∃ v k, e = .returned (.tuple #[v, .int .i64 k]) ∧ Ext w w' := by
  by_cases h : 64 < x.l.length
  · refine (parse_large x w hx h).mono ?_
    rintro e w' ⟨rfl, rfl⟩
    exact ⟨_, _, rfl, Ext.refl _⟩
  · refine (parse_good x w hx hb (by omega)).mono ?_
    rintro e w' ⟨v, rfl, hv⟩
    exact ⟨_, _, rfl, hv.1⟩

theorem Byt.append {l m : List Int} (h : Byt l) (h' : Byt m) : Byt (l ++ m) := fun b hb => (List.mem_append.1 hb).elim (h b) (h' b)

set_option maxHeartbeats 4000000 in
theorem new_large (x y : Wd) (w : World) (hx : Bits w x) (hy : Bits w y) (bx : Byt x.l) (hl : 64 < x.l.length + y.l.length) (hs : x.l.length + y.l.length ≤ 3000000) : Calls Try.prog 6 #[x.v, y.v] w fun e w' => e = .returned (.bool true) ∧ Ext w w' := by
  have hp := parse_some x w hx bx
  have PL : Hid (∀ (z : Wd) W, Bits W z → z.l = x.l ++ y.l → Calls Try.prog 7 #[z.v] W fun e w' => e = .returned (.tuple #[.slice none 0 0, .int .i64 1]) ∧ w' = W) := fun z W hz he => parse_large z W hz (by rw [he, List.length_append]; exact hl)
  have HX : Hid (Bits w x ∧ Bits w y) := ⟨hx, hy⟩
  obtain ⟨xn, hxn⟩ : ∃ xn, x.l.length = xn := ⟨_, rfl⟩
  obtain ⟨yn, hyn⟩ : ∃ yn, y.l.length = yn := ⟨_, rfl⟩
  have L1 : Hid (([] : List Int).length + x.l.length ≤ 140737488355328) := by show _ ≤ _; simp; omega
  have L2 : Hid (([] ++ x.l).length + y.l.length ≤ 140737488355328) := by show _ ≤ _; simp; omega
  have HXN : Hid (Value.slice x.a xn x.c = x.v) := by show _ = x.v; rw [← hxn]
  have HYN : Hid (Value.slice y.a yn y.c = y.v) := by show _ = y.v; rw [← hyn]
  rw [← HXN.out] at hp
  rw [← HXN.out, ← HYN.out]
  rw [hxn, hyn] at hl hs
  have hlz : ((xn : Int) + (yn : Int)) > 64 := by omega
  clear hx hy bx hxn hyn
  go_enter Try.func6, Try.ntmps6
  go_wp2_with fail
  refine hp.mono ?_
  rintro e w1 ⟨v, k, rfl, he⟩
  have E1 : Hid (Ext w w1) := he
  have O1 : Hid (OwnB w1 (w1.alloc (.cells #[] 5)) (.slice (some ⟨w1.heap.size, 0, none⟩) 0 0) []) := OwnB.empty w1
  have B1 : Hid (Bits (w1.alloc (.cells #[] 5)) x) := HX.out.1.ext (he.alloc _)
  have YE : Hid (∀ W, Ext w1 W → Bits W y) := fun W e => HX.out.2.ext (E1.out.trans e)
  clear hp he HX
  go_wp2_with (first
    | (at_builtin; refine wpList_appendBits rfl _ _ rfl w1 _ q3.v (by rfl) ([] ++ x.l) A3.out y (by show Value.slice _ _ _ = _; exact HYN.out) (YE.out _ A3.out.1) L2.out ?_; intro v4 w4 A4')
    | (at_builtin; refine wpList_appendBits rfl _ _ rfl w1 _ (.slice (some ⟨w1.heap.size, 0, none⟩) 0 0) (by rfl) [] O1.out x (by show Value.slice _ _ _ = _; exact HXN.out) B1.out L1.out ?_; intro v3 w3 A3'; obtain ⟨q3, rfl, -, -⟩ := A3'.bits; have A3 : Hid (OwnB w1 w3 q3.v ([] ++ x.l)) := A3'; clear A3'))
  obtain ⟨q4, rfl, hq4, hb4⟩ := A4'.bits
  have E4 : Hid (Ext w w4) := E1.out.trans A4'.1
  have hr := PL.out q4 w4 hb4 (by rw [hq4, List.nil_append])
  clear A4' A3 hq4 hb4 O1 B1 L1 L2 PL YE
  go_wp2_with fail
  refine hr.mono ?_
  rintro e w5 ⟨rfl, rfl⟩
  clear hr
  go_wp2
  go_ret
  exact ⟨rfl, E4.out⟩

end Go.Proofs.Ytjgheojfdkfmkaa
