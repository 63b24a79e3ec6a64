/-
  bytes.Equal; turn.follow.
-/
import Derived.Test.YtkccdhidmihekaaTu3
import Derived.Laws.BytesArg
namespace Go.Proofs.Ytkccdhidmihekaa
open Go.RowKit

theorem conv_bytes (x : Wd) (w : World) (hx : Bits w x) : (convert 22 9 x.v).run Try.prog w = .ok (.string (strOfNums x.l)) w := by
  obtain ⟨a, c, l⟩ := x
  obtain ⟨h1, h2, h0, b, o, h3, h4⟩ := hx
  simp only [Wd.v] at *
  rcases Nat.eq_zero_or_pos l.length with hl | hl
  · have : l = [] := List.eq_nil_of_length_eq_zero hl
    subst this
    show (convert 22 9 (.slice a 0 c)).run Try.prog w = _
    rw [run_convert_bytes_string w 22 9 5 _ 0 c Try.underlying22 Try.underlying5 (by kernel_rfl)]
    cases a <;> simp [Conv.bytesToString, loadCells]
    all_goals rfl
  · obtain rfl := h3 hl
    exact run_convert_bytes_arg (P := Try.prog) w 22 5 Try.underlying22 Try.underlying5 b o l.length c l rfl (fun i hi => h4 i hi) 9 (by kernel_rfl)

theorem str_inj : ∀ {u v : List Int}, InB u → InB v → ((Lib.bytesOf u == Lib.bytesOf v) = (u == v)) := by
  intro u v hu hv
  rw [Bool.eq_iff_iff, beq_iff_eq, beq_iff_eq]
  constructor
  · intro h
    have hl : u.length = v.length := by
      have := congrArg List.length h
      simpa [Lib.bytesOf] using this
    apply List.ext_getElem hl
    intro i h1 h2
    have h3 := congrArg (fun q => q[i]?) h
    simp [Lib.bytesOf, h1, h2] at h3
    exact u8_inj (hu _ (List.getElem_mem h1)) (hv _ (List.getElem_mem h2)) h3
  · intro h
    rw [h]

set_option maxHeartbeats 1000000 in
theorem bytesEqual_any (x y : Wd) (w : World) (hx : Bits w x) (hy : Bits w y) (bx : InB x.l) (by_ : InB y.l) :
    Calls Try.prog 23 #[x.v, y.v] w fun e w' => e = .returned (.bool (x.l == y.l)) ∧ w' = w := by
  have h1 := conv_bytes x w hx
  have h2 := conv_bytes y w hy
  rw [← str_inj bx by_, ← Lib.strOfNums_toList, ← Lib.strOfNums_toList]
  obtain ⟨xa, xc, xl⟩ := x
  obtain ⟨ya, yc, yl⟩ := y
  simp only [Wd.v] at *
  generalize strOfNums xl = s1 at *
  generalize strOfNums yl = s2 at *
  generalize xl.length = n at *
  generalize yl.length = m at *
  clear hx hy bx by_
  go_enter Try.func23, Try.ntmps23
  go_wp2
  go_ret
  exact ⟨rfl, rfl⟩

theorem eg33 : ∀ args w, (callFunc 33 args).run Try.prog w = .ok (.enter 33 args) w := enters_of Try.func33 (by kernel_rfl) rfl

set_option maxHeartbeats 1000000 in
theorem closure33_any (Bx : Nat) (x : Wd) (w : World) (hc : w.cell? ⟨Bx, 0, none⟩ = some x.v) (hx : Bits w x) (i j : Nat) (hi : i < x.l.length) (hj : j < x.l.length) :
    Calls Try.prog 33 #[.int .i64 i, .int .i64 j, .pointer (some ⟨Bx, 0, none⟩)] w fun e w' => e = .returned (.int .i64 (cmpI (x.l.getD i 0) (x.l.getD j 0))) ∧ Qt w w' := by
  obtain ⟨a, c, l⟩ := x
  obtain ⟨h1, h2, _, b, o, h3, h4⟩ := hx
  simp only [Wd.v] at *
  unfold maxLen at h2
  obtain rfl := h3 (by omega)
  have e1 := h4 i hi
  have e2 := h4 j hj
  generalize l.getD i 0 = u at *
  generalize l.getD j 0 = v at *
  have hcc : Hid (∀ W, Calls Try.prog 34 #[.int .u8 u, .int .u8 v] W fun e w' => e = .returned (.int .i64 (cmpI u v)) ∧ w' = W) := fun W => compare_any u v W
  clear h3 h4
  generalize l.length = n at *
  generalize cmpI u v = r at *
  go_enter Try.func33, Try.ntmps33
  go_wp2
  go_quiet ((go_at_call 34; exact Calls.quiet_of_same (hcc.out _)))
  go_wp2
  go_ret
  exact ⟨rfl, _, rfl⟩

theorem fol_take {L Nn : List Int} {a k : Nat} (h : k < L.length) : (fol L Nn a).take (k + 1) = (fol L Nn a).take k ++ [L.getD (pl Nn a (k + 1)) 0] := by
  have hk : k < (fol L Nn a).length := by rw [fol_length]; exact h
  rw [List.take_succ_eq_append_getElem hk]
  simp [fol]

set_option maxHeartbeats 2000000 in
theorem follow_any (x : Wd) (at_ : Nat) (w : World) (hx : Bits w x) (h : x.l.length ≤ 64) (hat : at_ < x.l.length ∨ x.l.length = 0) :
    Calls Try.prog 22 #[x.v, .int .i64 at_] w fun e w' => ∃ (y : Wd) (Nn : List Int), e = .returned y.v ∧ Nx x.l Nn ∧ y.l = fol x.l Nn at_ ∧ Bits w' y ∧ Ext w w' := by
  have HS : Hid (∀ W, W = w.alloc (.cells #[x.v] 22) → Calls Try.prog 30 #[.int .i64 x.l.length, .func (.func 33) #[] #[.pointer (some ⟨w.heap.size, 0, none⟩)]] W fun e w' => ∃ z : Nm, e = .returned z.v ∧ Hid (Nx x.l z.z) ∧ Nums w' z ∧ Ext W w') := by
    rintro W rfl
    refine (sorted_any (w.alloc (.cells #[x.v] 22)) x.l.length 33 #[.pointer (some ⟨w.heap.size, 0, none⟩)] (fun q => x.l.getD q.toNat 0) h eg33 ?_).mono ?_
    · intro W p q hp hq hE
      have hp' := mem_upI.1 hp
      have hq' := mem_upI.1 hq
      obtain ⟨i, rfl⟩ := Int.eq_ofNat_of_zero_le hp'.1
      obtain ⟨j, rfl⟩ := Int.eq_ofNat_of_zero_le hq'.1
      have e1 : Ext w (w.alloc (.cells #[x.v] 22)) := (Ext.refl _).alloc _
      exact closure33_any w.heap.size x W (hE.cell (cell_of_one (heap_alloc_new w _))) (hx.ext (e1.trans hE)) i j (by omega) (by omega)
    · rintro e w' ⟨z, rfl, h1, h2, h3⟩
      exact ⟨z, rfl, h1.out, h2, h3⟩
  have E0 : Hid (Ext w (w.alloc (.cells #[x.v] 22))) := (Ext.refl _).alloc _
  have C0 : Hid ((w.alloc (.cells #[x.v] 22)).cell? ⟨w.heap.size, 0, none⟩ = some x.v) := cell_of_one (heap_alloc_new w _)
  obtain ⟨a, c, l⟩ := x
  obtain ⟨h1, h2, hz, b, o, h3, h4⟩ := hx
  simp only [Wd.v] at *
  unfold maxLen at h2
  obtain ⟨n, hn⟩ : ∃ n, l.length = n := ⟨_, rfl⟩
  have HN : Hid (l.length = n) := hn
  rw [hn] at h hat h1 h3 h4 HS E0 C0 ⊢
  have H4 : Hid (∀ i, i < n → w.cell? ⟨b, o + i, none⟩ = some (.int .u8 (l.getD i 0))) := h4
  clear hn h4 hz
  have hmk := run_make_row' (P := Try.prog) 22 5 (.int .u8 0) 1 Try.underlying22 info5 rfl .i64 .i64 n (by omega) (by omega)
  have c0 := C0.out
  go_enter Try.func22, Try.ntmps22
  go_wp2_with fail
  refine (HS.out _ rfl).mono ?_
  rintro e w1 ⟨z, rfl, hN, hz, E1⟩
  have c1 := E1.cell c0
  have HE1 : Hid (Ext w w1) := E0.out.trans E1
  obtain ⟨za, zc, Nn⟩ := z
  obtain ⟨k1, k2, k0, b2, o2, k3, k4⟩ := hz
  simp only [Nm.v] at *
  have hzl : Nn.length = n := by rw [hN.out.1.length_eq, upI_length, HN.out]
  rw [hzl] at k1 k3 k4 ⊢
  unfold maxLen at k2
  have K4 : Hid (∀ i, i < n → w1.cell? ⟨b2, o2 + i, none⟩ = some (.int .i64 (Nn.getD i 0))) := k4
  have HPL : Hid (n ≠ 0 → ∀ i, pl Nn at_ i < n) := by
    intro h0 i
    have := pl_lt hN.out (a := at_) (by rw [HN.out]; omega) i
    rw [HN.out] at this
    exact this
  have HNN : Hid (∀ k, k < n → 0 ≤ Nn.getD k 0 ∧ Nn.getD k 0 < n) := by
    intro k hk
    have hk' : k < Nn.length := by omega
    have e : Nn.getD k 0 = Nn[k] := by simp [List.getD_eq_getElem?_getD, hk']
    rw [e]
    have := mem_upI.1 (hN.out.1.subset (List.getElem_mem hk'))
    rw [HN.out] at this
    exact this
  have HFT : Hid (∀ k, k < n → (fol l Nn at_).take (k + 1) = (fol l Nn at_).take k ++ [l.getD (pl Nn at_ (k + 1)) 0]) := fun k hk => fol_take (by rw [HN.out]; exact hk)
  have HFL : Hid ((fol l Nn at_).length = n) := by show _ = _; rw [fol_length, HN.out]
  obtain ⟨W0, hW0⟩ : ∃ W0, W0 = w1.alloc (.cells (madeCells #[.int .u8 0] n) 5) := ⟨_, rfl⟩
  have M0 : Hid (Row W0 w1.heap.size 5 (bv ((fol l Nn at_).take 0 ++ List.replicate (n - 0) 0))) := by
    rw [hW0]
    have := Row.made w1 5 (.int .u8 0) n
    show Row _ _ _ _
    simpa using this
  have ME : Hid (Ext w1 W0) := by rw [hW0]; exact (Ext.refl w1).alloc _
  clear HS E0 C0 E1 k0 k4 hzl c0
  go_wp2
  rw [← hW0]
  clear hW0 hmk
  go_loopg [7, 8, 19] n (fun gg s7 _ s wr => ∃ (k p : Nat), k ≤ n ∧ n - k ≤ gg ∧ s = .int .i64 k ∧ s7 = .int .i64 p ∧ Aside (p = pl Nn at_ k) ∧ Aside (Ext w1 wr) ∧ Aside (Row wr w1.heap.size 5 (bv ((fol l Nn at_).take k ++ List.replicate (n - k) 0))))
  case atStart => exact ⟨0, at_, by omega, by omega, rfl, rfl, rfl, ME.out, M0.out⟩
  case round =>
    obtain ⟨k, p, hk, hgg, rfl, rfl, AP, BW, A⟩ := hrel
    clear M0 ME
    by_cases hlt : k < n
    · have hltz : (k : Int) < (n : Int) := by omega
      obtain rfl := h3 (by omega)
      obtain rfl := k3 (by omega)
      have hpn : p < n := by rw [AP.out]; exact HPL.out (by omega) k
      have hpz : (p : Int) < (n : Int) := by omega
      have e1 := BW.out.cell (K4.out p hpn)
      obtain ⟨g0, g1⟩ := HNN.out p hpn
      obtain ⟨q, hq⟩ := Int.eq_ofNat_of_zero_le g0
      have hqn : q < n := by omega
      have hqz : (q : Int) < (n : Int) := by omega
      have hqp : Hid (q = pl Nn at_ (k + 1)) := by
        show _ = _
        rw [pl, ← AP.out, hq, Int.toNat_natCast]
      have e2 := BW.out.cell (HE1.out.cell (H4.out q hqn))
      have e3 := BW.out.cell c1
      rw [hq] at e1
      have hft : Hid ((fol l Nn at_).take (k + 1) = (fol l Nn at_).take k ++ [l.getD q 0]) := by
        rw [hqp.out]; exact HFT.out k hlt
      have hfl : Hid (((fol l Nn at_).take k).length = k) := by show _ = _; rw [List.length_take, HFL.out]; omega
      have nx : Hid (Row (wr.setCell ⟨w1.heap.size, k, none⟩ (.int .u8 (l.getD q 0))) w1.heap.size 5 (bv ((fol l Nn at_).take (k + 1) ++ List.replicate (n - (k + 1)) 0))) := by
        rw [hft.out]
        exact fill_bytes2 wr _ k n _ (l.getD q 0) hfl.out hlt A.out
      have nE : Hid (Ext w1 (wr.setCell ⟨w1.heap.size, k, none⟩ (.int .u8 (l.getD q 0)))) := BW.out.setCell (Nat.le_refl _) _
      have f1 := A.out.fr k
      obtain ⟨v1, d1⟩ : ∃ v, wr.cell? ⟨w1.heap.size, k, none⟩ = some v := ⟨_, A.out.cell k (by rw [List.length_map, List.length_append, hfl.out, List.length_replicate]; omega)⟩
      clear A BW hfl hft g0 g1 hq AP HPL HNN HFT c1
      generalize l.getD q 0 = y at *
      go_wp2
      go_roundg (n - (k + 1))
      case measure => omega
      case rel => exact ⟨k + 1, q, by omega, by omega, by go_num, rfl, hqp.out, nE.out, nx.out⟩
    · have hk' : k = n := by omega
      subst hk'
      have F : Hid (∃ y : Wd, Value.slice (some ⟨w1.heap.size, 0, none⟩) k k = y.v ∧ y.l = fol l Nn at_ ∧ Bits wr y ∧ Ext w wr) := by
        have r := A.out
        rw [Nat.sub_self, List.replicate_zero, List.append_nil, List.take_of_length_le (by rw [HFL.out]; omega)] at r
        refine ⟨⟨some ⟨w1.heap.size, 0, none⟩, k, fol l Nn at_⟩, ?_, rfl, ?_, HE1.out.trans BW.out⟩
        · simp only [Wd.v]; rw [HFL.out]
        · have := r.bits (by rw [HFL.out]; unfold maxLen; omega)
          rw [HFL.out] at this
          exact this
      clear A
      go_wp2
      go_ret
      obtain ⟨y, e1, e2, e3, e4⟩ := F.out
      exact ⟨y, Nn, congrArg Ending.returned e1, hN.out, e2, e3, e4⟩

end Go.Proofs.Ytkccdhidmihekaa
