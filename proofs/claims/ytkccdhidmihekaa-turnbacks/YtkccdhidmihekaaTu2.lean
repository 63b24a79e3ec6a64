/-
  turn.sortedTurns and turn.Turn.
-/
import Derived.Test.YtkccdhidmihekaaTu1
namespace Go.Proofs.Ytkccdhidmihekaa
open Go.RowKit

theorem eg31 : ∀ args w, (callFunc 31 args).run Try.prog w = .ok (.enter 31 args) w := enters_of Try.func31 (by kernel_rfl) rfl

set_option maxHeartbeats 2000000 in
theorem sortedTurns_any (x : Wd) (w : World) (hx : Bits w x) (hin : InB x.l) (h0 : 0 < x.l.length) (h : x.l.length ≤ 64) :
    Calls Try.prog 19 #[x.v] w fun e w' => ∃ y : Nm, e = .returned y.v ∧ Hid (SrtN (ky x.l) x.l.length y.z) ∧ Nums w' y ∧ Ext w w' := by
  obtain ⟨a, c, l⟩ := x
  simp only [Wd.v] at *
  obtain ⟨n, hn⟩ : ∃ n, l.length = n := ⟨_, rfl⟩
  rw [hn] at h0 h ⊢
  have HX : Hid (Bits w ⟨a, c, l⟩) := hx
  have HN : Hid (l.length = n) := hn
  have HIn : Hid (InB l) := hin
  have E0 : Hid (Ext w ((w.alloc (.cells #[.int .i64 n] 3)).alloc (.cells #[.slice a n c, .slice a n c] 22))) := ((Ext.refl w).alloc _).alloc _
  have S0 : Hid (((w.alloc (.cells #[.int .i64 n] 3)).alloc (.cells #[.slice a n c, .slice a n c] 22)).cell? ⟨w.heap.size, 0, none⟩ = some (.int .i64 n)) :=
    (show Ext (w.alloc (.cells #[.int .i64 n] 3)) _ from (Ext.refl _).alloc _).cell (cell_of_one (heap_alloc_new w _))
  have C := concat_any (some ⟨w.heap.size + 1, 0, none⟩) 2 [⟨a, c, l⟩, ⟨a, c, l⟩] ((w.alloc (.cells #[.int .i64 n] 3)).alloc (.cells #[.slice a n c, .slice a n c] 22)) (by
    refine ⟨by simp, by simp [maxLen], ?_, w.heap.size + 1, 0, fun _ => rfl, ?_⟩
    · intro x hx2
      have : x = ⟨a, c, l⟩ := by simpa using hx2
      rw [this]
      exact hx.ext E0.out
    · intro i hi
      have hR : Row ((w.alloc (.cells #[.int .i64 n] 3)).alloc (.cells #[.slice a n c, .slice a n c] 22)) (w.heap.size + 1) 22 [.slice a n c, .slice a n c] := by
        have := heap_alloc_new (w.alloc (.cells #[.int .i64 n] 3)) (.cells #[.slice a n c, .slice a n c] 22)
        have e : (w.alloc (.cells #[.int .i64 n] 3)).heap.size = w.heap.size + 1 := by simp
        rw [e] at this
        exact this
      rw [Nat.zero_add, hR.cell i (by simpa using hi)]
      have : i = 0 ∨ i = 1 := by simp at hi; omega
      rcases this with rfl | rfl <;> simp [Wd.v, hn]) (by simp [cat]; omega)
  have hcat : cat [⟨a, c, l⟩, ⟨a, c, l⟩] = l ++ l := by simp [cat]
  rw [hcat] at C
  simp only [List.length_cons, List.length_nil, Nat.zero_add, Nat.reduceAdd] at C
  clear hx hin hn hcat
  go_enter Try.func19, Try.ntmps19
  go_wp2_with fail
  refine C.mono ?_
  rintro e w3 ⟨v, rfl, O3⟩
  obtain ⟨y, rfl, hyl, hy⟩ := O3.bits
  obtain ⟨ya, yc, yl⟩ := y
  simp only at hyl
  subst hyl
  have hll : (l ++ l).length = n + n := by rw [List.length_append, HN.out]
  obtain ⟨yb, yo, hya⟩ : ∃ b o, ya = some ⟨b, o, none⟩ := by
    obtain ⟨_, _, _, b, o, h3, _⟩ := hy
    exact ⟨b, o, h3 (by simp only; omega)⟩
  subst hya
  have E3 : Hid (Ext w w3) := E0.out.trans O3.1
  have S3 : w3.cell? ⟨w.heap.size, 0, none⟩ = some (.int .i64 n) := O3.1.cell S0.out
  simp only [Wd.v]
  rw [hll]
  have B3 : Hid (Bits w3 ⟨some ⟨yb, yo, none⟩, yc, l ++ l⟩) := hy
  have HS : Hid (∀ W, W = w3.alloc (.cells #[.slice (some ⟨yb, yo, none⟩) (n + n) yc] 22) → Calls Try.prog 30 #[.int .i64 n, .func (.func 31) #[] #[.pointer (some ⟨w3.heap.size, 0, none⟩), .pointer (some ⟨w.heap.size, 0, none⟩)]] W fun e w' => ∃ x : Nm, e = .returned x.v ∧ Hid (SrtN (ky l) n x.z) ∧ Nums w' x ∧ Ext W w') := by
    rintro W rfl
    refine sorted_any _ n 31 _ (ky l) (by omega) eg31 ?_
    intro W x y hx hy hE
    have hx' := mem_upI.1 hx
    have hy' := mem_upI.1 hy
    obtain ⟨i, rfl⟩ := Int.eq_ofNat_of_zero_le hx'.1
    obtain ⟨j, rfl⟩ := Int.eq_ofNat_of_zero_le hy'.1
    have e1 : Ext w3 (w3.alloc (.cells #[.slice (some ⟨yb, yo, none⟩) (n + n) yc] 22)) := (Ext.refl _).alloc _
    exact closure31_any w3.heap.size w.heap.size yb yo yc n l W (hE.cell (cell_of_one (heap_alloc_new w3 _))) (hE.cell (e1.cell S3)) (B3.out.ext (e1.trans hE)) HN.out (by omega) HIn.out i j (by omega) (by omega)
  have S4 : (w3.alloc (.cells #[.slice (some ⟨yb, yo, none⟩) (n + n) yc] 22)).cell? ⟨w.heap.size, 0, none⟩ = some (.int .i64 n) := (show Ext w3 _ from (Ext.refl _).alloc _).cell S3
  have E4 : Hid (Ext w (w3.alloc (.cells #[.slice (some ⟨yb, yo, none⟩) (n + n) yc] 22))) := E3.out.alloc _
  clear C O3 hy hll S0 E0 HX B3 E3
  go_wp2_with fail
  refine (HS.out _ rfl).mono ?_
  rintro e w5 ⟨x, rfl, hx1, hx2, hx3⟩
  have F : Hid (Nums w5 x ∧ Ext w w5) := ⟨hx2, E4.out.trans hx3⟩
  clear HS hx2 hx3 S4 E4 S3
  go_wp2
  go_ret
  exact ⟨x, rfl, hx1, F.out.1, F.out.2⟩

end Go.Proofs.Ytkccdhidmihekaa
