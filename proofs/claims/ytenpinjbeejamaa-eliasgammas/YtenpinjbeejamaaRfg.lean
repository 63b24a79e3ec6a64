/-
  quipuref.bin, quipuref.Gamma, quipuref.Delta: the document's bits of a number.
-/
import Derived.Test.YtenpinjbeejamaaGam
namespace Go.Proofs.Ytenpinjbeejamaa
open Go.RowKit

set_option maxHeartbeats 2000000 in
theorem bin_any (n : Nat) (hn : n ≤ 1048576) (w : World) :
    Calls Try.prog 19 #[.int .i64 (n : Int)] w fun e w' => (∃ B : Nat, e = .returned (.slice (some ⟨B, 0, none⟩) (nd n) (nd n)) ∧ Row w' B 4 (bv (dg n (nd n)))) ∧ Ext w w' := by
  have hs := nd_21 hn
  have hD := digits_any n (nd n) hn hs w
  obtain ⟨s, hns⟩ : ∃ s, nd n = s := ⟨_, rfl⟩
  rw [hns] at hD hs ⊢
  have HNS : Hid (nd n = s) := hns
  clear hns
  go_enter Try.func19, Try.ntmps19
  go_wp2
  go_loopg [3, 4] n (fun gg u v wr => wr = w ∧ ∃ x k : Nat, x ≤ gg ∧ x ≤ 1048576 ∧ k ≤ 21 ∧ u = .int .i64 k ∧ v = .int .i64 x ∧ Hid (nd x + k = s))
  case atStart => exact ⟨rfl, n, 0, Nat.le_refl _, hn, by omega, rfl, rfl, HNS.out⟩
  case round =>
    obtain ⟨rfl, x, k, hgg, hx, hk, rfl, rfl, hi⟩ := hrel
    by_cases h0 : x = 0
    · subst h0
      have hks : k = s := by have := hi.out; rw [nd_zero] at this; omega
      subst hks
      clear hi
      go_wp2_with fail
      refine hD.mono ?_
      rintro e w1 ⟨⟨B, rfl, hR⟩, hE⟩
      have HR : Hid (Row w1 B 4 (bv (dg n k)) ∧ Ext wr w1) := ⟨hR, hE⟩
      clear hR hE hD
      go_wp2
      go_ret
      exact ⟨⟨B, rfl, HR.out.1⟩, HR.out.2⟩
    · have hlt : (x : Int) > 0 := by omega
      have h2 : Hid (nd (x / 2) + (k + 1) = s) := by
        have := hi.out
        rw [nd_half x h0] at this
        show _ = _
        omega
      have hk2 : k + 1 ≤ 21 := by have := h2.out; omega
      clear hi
      go_wp2
      go_roundg (x / 2)
      case measure => omega
      case rel => exact ⟨rfl, x / 2, k + 1, Nat.le_refl _, by omega, hk2, by go_num, by go_num, h2.out⟩

theorem OwnB.base {w w1 w2 : World} {v : Value} {l : List Bool} (e : Ext w w1) (h : OwnB w1 w2 v l) : OwnB w w2 v l := by
  obtain ⟨h1, h2, h3⟩ := h
  refine ⟨e.trans h1, h2, ?_⟩
  rcases h3 with h3 | ⟨g, cap, cur, hv, hg, r⟩
  · exact .inl h3
  · exact .inr ⟨g, cap, cur, hv, Nat.le_trans e.size hg, r⟩

theorem OwnB.made (w : World) (k : Nat) (hk : k ≤ 1000) : OwnB w (w.alloc (.cells (madeCells #[.bool false] k) 4)) (.slice (some ⟨w.heap.size, 0, none⟩) k k) (List.replicate k false) := by
  have h := Row.made w 4 (.bool false) k
  refine ⟨(Ext.refl w).alloc _, by simp, .inr ⟨w.heap.size, k, (List.replicate k (Value.bool false)).toArray, by simp, Nat.le_refl _, h, by simp, by unfold maxLen; omega, by simp, by simp⟩⟩

theorem run_appendBits (ty : TypeId) (w0 w : World) (v : Value) (l : List Bool) (hown : OwnB w0 w v l) (ad : Addr) (c : Nat) (r : List Bool) (hy : Bits w ⟨some ad, c, r⟩) (hb : l.length + r.length ≤ 140737488355328) :
    ∃ v' w', (Builtin.append_ #[22, 22] ty #[v, .slice (some ad) r.length c]).run Try.prog w = .ok v' w' ∧ OwnB w0 w' v' (l ++ r) := by
  obtain ⟨i0, hi, hz0, hz1, hz2⟩ := info_parts info4
  obtain ⟨he, hown⟩ := hown
  obtain ⟨y1, y2, y0, b, off, y3, y4⟩ := hy
  simp only at y0 y1 y2 y3 y4
  obtain ⟨v', w', h1, h2, h3, _⟩ := run_append_own (P := Try.prog) w w0.heap.size 22 ty 4 i0 (.bool false) 1 1 Try.underlying22 hi hz0 hz1 hz2 rfl (by decide) v l.length (l.map Value.bool) hown ad r.length c (r.map Value.bool) (by simp)
    (by
      intro j u hj
      have hj' : j < r.length := by
        rcases Nat.lt_or_ge j r.length with h' | h'
        · exact h'
        · rw [List.getElem?_eq_none (by simpa using h')] at hj; cases hj
      have had := y3 (by omega)
      simp only [Option.some.injEq] at had
      subst had
      rw [Addr.add_lit, y4 j hj']
      simp [hj'] at hj
      simp [List.getD_eq_getElem?_getD, hj', hj])
    (by
      intro u hu
      obtain ⟨q, _, rfl⟩ := List.mem_map.1 hu
      rfl) (by unfold maxLen; omega) (by omega) he.size
  refine ⟨v', w', h1, ?_, ?_⟩
  · exact Below.grown he h3 he.size (fun k hk => (hown.lt k hk).1)
  · rw [List.length_append, List.map_append]
    exact h2

set_option maxHeartbeats 2000000 in
theorem refGamma_any (n : Nat) (h0 : n ≠ 0) (hn : n ≤ 1048576) (w : World) :
    Calls Try.prog 11 #[.int .i64 (n : Int)] w fun e w' => ∃ v, e = .returned v ∧ OwnB w w' v (gam n) := by
  have hd := bin_any n hn w
  have hs := nd_21 hn
  have hp := nd_pos h0
  have hg : gam n = List.replicate (nd n - 1) false ++ dg n (nd n) := rfl
  rw [hg]
  clear hg
  obtain ⟨k, hk⟩ : ∃ k, nd n = k + 1 := ⟨nd n - 1, by omega⟩
  rw [hk] at hd ⊢
  rw [Nat.add_sub_cancel]
  have hk20 : k ≤ 20 := by omega
  clear hk hs hp
  have hl := dg_length n (k + 1)
  generalize dg n (k + 1) = D at *
  have hmk := run_make_row' (P := Try.prog) 22 4 (.bool false) 1 Try.underlying22 info4 rfl .i64 .i64 k (by omega) (by omega)
  have hk1 : ((k + 1 : Nat) : Int) - 1 = (k : Int) := by omega
  go_enter Try.func11, Try.ntmps11
  go_wp2_with fail
  refine hd.mono ?_
  rintro e w1 ⟨⟨B, rfl, hR⟩, hE⟩
  have HB : Hid (Bits w1 ⟨some ⟨B, 0, none⟩, k + 1, D⟩) := by
    have := hR.bits (by rw [hl]; unfold maxLen; omega)
    rw [hl] at this
    exact this
  have HE : Hid (Ext w w1) := hE
  have HO : Hid (OwnB w (w1.alloc (.cells (madeCells #[.bool false] k) 4)) (.slice (some ⟨w1.heap.size, 0, none⟩) k k) (List.replicate k false)) := OwnB.base hE (OwnB.made w1 k (by omega))
  have HB2 : Hid (Bits (w1.alloc (.cells (madeCells #[.bool false] k) 4)) ⟨some ⟨B, 0, none⟩, k + 1, D⟩) := HB.out.ext ((Ext.refl _).alloc _)
  have HL : Hid (D.length = k + 1) := hl
  have bx : Hid ((List.replicate k false).length + D.length ≤ 140737488355328) := by show _ ≤ _; rw [hl, List.length_replicate]; omega
  have ex : Hid (Value.slice (some ⟨B, 0, none⟩) (k + 1) (k + 1) = Wd.v ⟨some ⟨B, 0, none⟩, k + 1, D⟩) := by show _ = _; rw [Wd.v, hl]
  clear hR hE hd hl
  go_wp2_with (at_builtin; refine wpList_appendBits rfl _ _ rfl w _ (.slice (some ⟨w1.heap.size, 0, none⟩) k k) (by rfl) (List.replicate k false) HO.out ⟨some ⟨B, 0, none⟩, k + 1, D⟩ (by exact ex.out) HB2.out bx.out ?_; intro v' w2 B2)
  have HV : Hid (OwnB w w2 v' (List.replicate k false ++ D)) := B2
  clear B2
  go_wp2
  go_ret
  exact ⟨v', rfl, HV.out⟩

theorem exec_append {P : Program} (ρ : Operand → Value) (o : Oper) (s x : Operand) (t : TypeId) (ho : o.op = .call { callee := .builtin .append, args := #[s, x], argTypes := #[t, t] }) (v sv v' : Value) (W W' : World) (hs : ρ s = v) (hx : ρ x = sv)
    (hr : (Builtin.append_ #[t, t] o.type #[v, sv]).run P W = .ok v' W') : (execOp ρ o).run P W = .ok (.value v') W' := by
  unfold execOp
  simp only [ho, resolve, invoke, builtin, Sem.run_bind, Sem.run_pure, Result.andThen_ok, List.map_toArray, List.map_cons, List.map_nil, hs, hx, hr]

set_option maxHeartbeats 2000000 in
theorem refDelta_any (n : Nat) (h0 : n ≠ 0) (hn : n ≤ 1048576) (w : World) :
    Calls Try.prog 13 #[.int .i64 (n : Int)] w fun e w' => ∃ v, e = .returned v ∧ Told w w' v (del n) := by
  have hd := bin_any n hn w
  have hs := nd_21 hn
  have hp := nd_pos h0
  have hdd := dg_nd h0
  have hdl : del n = gam (nd n) ++ dg n (nd n - 1) := rfl
  have hgl := gam_length (nd n)
  have hgm : Hid (∀ W, Calls Try.prog 11 #[.int .i64 (nd n : Nat)] W fun e w' => ∃ v, e = .returned v ∧ OwnB W w' v (gam (nd n))) := fun W => refGamma_any (nd n) (by omega) (by omega) W
  have hg20 : (gam (nd n)).length ≤ 41 := by
    have := nd_21 (n := nd n) (by omega)
    omega
  have hlen := dg_length n (nd n)
  rw [hdl]
  generalize gam (nd n) = G at *
  have hD1 : dg n (nd n - 1) = (dg n (nd n)).drop 1 := by rw [hdd]; rfl
  rw [hD1]
  clear hdl hgl hdd hD1
  generalize dg n (nd n) = xl at *
  generalize nd n = k at *
  go_enter Try.func13, Try.ntmps13
  go_wp2_with fail
  refine hd.mono ?_
  rintro e w1 ⟨⟨B, rfl, hR⟩, hE⟩
  clear hd
  have hb : Bits w1 ⟨some ⟨B, 0, none⟩, k, xl⟩ := by
    have := hR.bits (by rw [hlen]; unfold maxLen; omega)
    rw [hlen] at this
    exact this
  have HE : Hid (Ext w w1) := hE
  have HR : Hid (Bits w1 ⟨if k = 1 then some ⟨B, 0, none⟩ else some (Addr.add ⟨B, 0, none⟩ 1), k - 1, xl.drop 1⟩) := hb.rest (by omega) _ rfl
  have HRL : Hid ((xl.drop 1).length = k - 1) := by show _ = _; rw [List.length_drop]; omega
  obtain ⟨R, hRR⟩ : ∃ R, R = xl.drop 1 := ⟨_, rfl⟩
  rw [← hRR] at HR HRL
  have HRR : Hid (R = xl.drop 1) := hRR
  have hk1 : (1 : Int) ≤ (k : Int) := by omega
  clear hlen hE hR hb hRR
  go_wp2
  refine wp_region_mix (fun _ => True) 7 (by rfl) (by kernel_rfl) ?_
  refine wpMix_take (v := .slice (some ⟨B, 0, none⟩) k k) 0 (by rfl) (by kernel_rfl) ⟨by rfl, ?_⟩ ?_
  · rintro W -
    go_simp
  refine wpMix_take (v := .int .i64 k) 1 (by rfl) (by kernel_rfl) ⟨by rfl, ?_⟩ ?_
  · rintro W -
    go_simp
  refine wpMix_take (v := .slice (some ⟨B, 0, none⟩) k k) 3 (by rfl) (by kernel_rfl) ⟨by rfl, ?_⟩ ?_
  · rintro W -
    go_simp
  refine wpMix_take (v := .slice (if k = 1 then some ⟨B, 0, none⟩ else some (Addr.add ⟨B, 0, none⟩ 1)) (k - 1) (k - 1)) 4 (by rfl) (by kernel_rfl) ⟨by rfl, ?_⟩ ?_
  · rintro W -
    go_simp
  have hq : ∃ q, (if k = 1 then some (⟨B, 0, none⟩ : Addr) else some (Addr.add ⟨B, 0, none⟩ 1)) = some q := by
    by_cases h : k = 1
    · exact ⟨_, if_pos h⟩
    · exact ⟨_, if_neg h⟩
  obtain ⟨q, hq⟩ := hq
  rw [hq] at HR ⊢
  have E1 : Hid (Ext w w1.drew) := HE.out.trans ((Ext.refl w1).drewN 1)
  have R1 : Hid (Bits w1.drew ⟨some q, k - 1, R⟩) := HR.out.ext ((Ext.refl w1).drewN 1)
  clear HE HR hq
  generalize w1.drew = W1 at *
  refine wpMix_only 2 (by kernel_rfl) trivial ?_
  refine mOp_call (f := 11) (args := #[.int .i64 (k : Int)]) (w' := W1) (by rfl) (by rfl) ?_ ?_
  · go_simp
  refine (hgm.out W1).mono ?_
  rintro e W2 ⟨v, rfl, hO⟩
  refine ⟨_, rfl, ?_⟩
  have R2 : Hid (Bits W2 ⟨some q, k - 1, R⟩) := R1.out.ext hO.1
  have O2 : Hid (OwnB w W2 v G) := OwnB.base E1.out hO
  clear hO E1 R1 hgm
  have bx : G.length + R.length ≤ 140737488355328 := by rw [HRL.out]; omega
  obtain ⟨v', W3, hrun, hO3⟩ := run_appendBits 22 w W2 v G O2.out q (k - 1) R R2.out bx
  rw [HRL.out] at hrun
  refine wpMix_only 5 (by kernel_rfl) trivial ?_
  refine mOp_value (v := v') (w' := W3) (by rfl) (by rfl) ?_ ?_
  · exact exec_append _ _ (.tmp 8) (.tmp 10) 22 (by rfl) v (.slice (some q) (k - 1) (k - 1)) v' W2 W3 (by simp [Act.eval, Act.put]) (by simp [Act.eval, Act.put]) hrun
  have HV : Hid (Told w W3 v' (G ++ List.drop 1 xl)) := by
    rw [HRR.out] at hO3
    exact ⟨hO3.bits, hO3.1⟩
  clear hrun hO3
  refine wpMix_lastv (v := v') (w' := W3) 6 (by kernel_rfl) (by kernel_rfl) (by rfl) (by rfl) trivial ?_ trivial ?_
  · go_simp
  simp only [Act.put, List.setIfInBounds_toArray, List.set_cons_zero, List.set_cons_succ]
  go_wp2
  go_ret
  exact ⟨v', rfl, HV.out⟩

end Go.Proofs.Ytenpinjbeejamaa
