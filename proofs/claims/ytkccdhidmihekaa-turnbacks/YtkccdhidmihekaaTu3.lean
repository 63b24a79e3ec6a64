/-
  slices.Index of a number; turn.Turn.
-/
import Derived.Test.YtkccdhidmihekaaTu2
import Derived.OwnWalk
namespace Go.Proofs.Ytkccdhidmihekaa
open Go.RowKit

set_option maxHeartbeats 1000000 in
theorem index_any (x : Nm) (v : Int) (w : World) (hx : Nums w x) (hv : v ∈ x.z) : Calls Try.prog 20 #[x.v, .int .i64 v] w fun e w' => e = .returned (.int .i64 (x.z.idxOf v : Int)) ∧ w' = w := by
  obtain ⟨a, c, z⟩ := x
  obtain ⟨h1, h2, h0, b, o, h3, h4⟩ := hx
  simp only [Nm.v] at *
  unfold maxLen at h2
  have hlt := List.idxOf_lt_length_iff.2 hv
  have hat : z.getD (z.idxOf v) 0 = v := by
    rw [List.getD_eq_getElem?_getD, List.getElem?_eq_getElem hlt, Option.getD_some, List.getElem_idxOf]
  have hno : Hid (∀ k, k < z.idxOf v → (v == z.getD k 0) = false) := by
    intro k hk
    rw [beq_eq_false_iff_ne]
    intro e
    have hkz : k < z.length := by omega
    have e2 : z.getD k 0 = z[k] := by simp [List.getD_eq_getElem?_getD, hkz]
    have h5 : (z.take (k + 1)).idxOf v = z.idxOf v := by
      have hm : v ∈ z.take (k + 1) := by
        rw [e, e2, List.take_succ_eq_append_getElem hkz]
        exact List.mem_append_right _ (List.mem_singleton.2 rfl)
      conv => rhs; rw [← List.take_append_drop (k + 1) z]
      rw [List.idxOf_append, if_pos hm]
    have h6 : (z.take (k + 1)).idxOf v < k + 1 := by
      have hm : v ∈ z.take (k + 1) := by
        rw [e, e2, List.take_succ_eq_append_getElem hkz]
        exact List.mem_append_right _ (List.mem_singleton.2 rfl)
      have := List.idxOf_lt_length_iff.2 hm
      rw [List.length_take] at this
      omega
    have h7 : k < z.idxOf v := hk
    have h8 : z.idxOf v = k := by omega
    omega
  have H4 : Hid (∀ i, i < z.length → w.cell? ⟨b, o + i, none⟩ = some (.int .i64 (z.getD i 0))) := h4
  generalize z.idxOf v = q at *
  have HAT : Hid (z.getD q 0 = v) := hat
  clear h4 hat hv
  obtain ⟨n, hn⟩ : ∃ n, z.length = n := ⟨_, rfl⟩
  rw [hn] at hlt H4 h3 h1 ⊢
  clear hn h0
  obtain rfl := h3 (by omega)
  go_enter Try.func20, Try.ntmps20
  go_wp2
  go_loopg [5, 8] n (fun gg _ s wr => wr = w ∧ ∃ k : Nat, k ≤ q ∧ n - k ≤ gg ∧ s = .int .i64 k)
  case atStart => exact ⟨rfl, 0, by omega, by omega, rfl⟩
  case round =>
    obtain ⟨rfl, k, hk, hgg, rfl⟩ := hrel
    have hltz : (k : Int) < (n : Int) := by omega
    have e1 := H4.out k (by omega)
    by_cases hkq : k = q
    · subst hkq
      rw [HAT.out] at e1
      clear hno HAT H4
      go_wp2
      go_ret
      exact ⟨rfl, rfl⟩
    · have hne := hno.out k (by omega)
      generalize z.getD k 0 = y at *
      clear hno HAT H4
      go_wp2
      go_roundg (n - (k + 1))
      case measure => omega
      case rel => exact ⟨rfl, k + 1, by omega, by omega, by go_num⟩

theorem turn_large (x : Wd) (w : World) (hx : Bits w x) (h : 64 < x.l.length) :
    Calls Try.prog 9 #[x.v] w fun e w' => e = .returned (.tuple #[.slice none 0 0, .int .i64 0, .int .i64 1]) ∧ w' = w := by
  obtain ⟨a, c, l⟩ := x
  have h1 := hx.1
  have h2 := hx.2.1
  simp only [Wd.v] at *
  unfold maxLen at h2
  clear hx
  generalize l.length = n at *
  have hn : (n : Int) > 64 := by omega
  go_enter Try.func9, Try.ntmps9
  go_wp2
  go_ret3
  exact ⟨rfl, rfl⟩

theorem turn_none (x : Wd) (w : World) (h : x.l.length = 0) :
    Calls Try.prog 9 #[x.v] w fun e w' => e = .returned (.tuple #[.slice none 0 0, .int .i64 0, .int .i64 0]) ∧ w' = w := by
  obtain ⟨a, c, l⟩ := x
  simp only [Wd.v] at *
  rw [h]
  go_enter Try.func9, Try.ntmps9
  go_wp2
  go_ret3
  exact ⟨rfl, rfl⟩

set_option maxHeartbeats 2000000 in
theorem turn_some (x : Wd) (w : World) (hx : Bits w x) (hin : InB x.l) (h0 : 0 < x.l.length) (h : x.l.length ≤ 64) :
    Calls Try.prog 9 #[x.v] w fun e w' => ∃ y : Wd, e = .returned (.tuple #[y.v, .int .i64 (rk x.l 0 : Int), .int .i64 0]) ∧ y.l = tl x.l ∧ Bits w' y ∧ Ext w w' := by
  have hs := sortedTurns_any x w hx hin h0 h
  have HX : Hid (Bits w x) := hx
  obtain ⟨a, c, l⟩ := x
  obtain ⟨h1, h2, hz, b, o, h3, h4⟩ := hx
  simp only [Wd.v] at *
  obtain ⟨n, hn⟩ : ∃ n, l.length = n := ⟨_, rfl⟩
  have HN : Hid (l.length = n) := hn
  have HP : Hid (∀ z : List Int, SrtN (ky l) n z → z.length = n ∧ (∀ k, k < n → 0 ≤ z.getD k 0 ∧ z.getD k 0 < n) ∧ z.map (fun q => l.getD ((q.toNat + n - 1) % n) 0) = tl l ∧ (0 : Int) ∈ z ∧ z.idxOf 0 = rk l 0) := by
    rintro z ⟨p1, p2⟩
    have hl : z.length = n := by rw [p1.length_eq, upI_length]
    rw [← hn] at p1 ⊢
    refine ⟨by rw [hl, hn], fun k hk => ?_, sorted_tl p1 p2, p1.symm.subset (mem_upI.2 (by omega)), idx_rk p1 p2 (i := 0) (by omega)⟩
    have hk' : k < z.length := by omega
    have e : z.getD k 0 = z[k] := by simp [List.getD_eq_getElem?_getD, hk']
    rw [e]
    exact mem_upI.1 (p1.subset (List.getElem_mem hk'))
  rw [hn] at h0 h h1 h3 h4 hs ⊢
  clear hn hin hz h2
  obtain rfl := h3 h0
  have H4 : Hid (∀ i, i < n → w.cell? ⟨b, o + i, none⟩ = some (.int .u8 (l.getD i 0))) := h4
  clear h3 h4 HX
  have hn64 : ¬ ((n : Int) > 64) := by omega
  have hn0 : ((n : Int) == 0) = false := beq_eq_false_iff_ne.2 (by omega)
  have hmk := run_make_row' (P := Try.prog) 22 5 (.int .u8 0) 1 Try.underlying22 info5 rfl .i64 .i64 n (by omega) (by omega)
  generalize ky l = key at *
  generalize rk l 0 = at_ at *
  generalize tl l = L at *
  go_enter Try.func9, Try.ntmps9
  go_wp2_with fail
  refine hs.mono ?_
  rintro e w1 ⟨y, rfl, hy1, hy2, E1⟩
  obtain ⟨q1, q2, q3, q4, q5⟩ := HP.out y.z hy1.out
  have hix : Hid (∀ W, Ext w1 W → Calls Try.prog 20 #[y.v, .int .i64 0] W fun e w' => e = .returned (.int .i64 (at_ : Int)) ∧ w' = W) := by
    intro W hW
    have := index_any y 0 W (hy2.ext hW) q4
    rw [q5] at this
    exact this
  obtain ⟨ya, yc, z⟩ := y
  obtain ⟨k1, k2, k0, b2, o2, k3, k4⟩ := hy2
  simp only [Nm.v] at *
  unfold maxLen at k2
  rw [q1] at k1 k3 k4 hix ⊢
  obtain rfl := k3 h0
  have K4 : Hid (∀ i, i < n → w1.cell? ⟨b2, o2 + i, none⟩ = some (.int .i64 (z.getD i 0))) := k4
  have HQ1 : Hid (z.length = n) := q1
  have HQ2 : Hid (∀ k, k < n → 0 ≤ z.getD k 0 ∧ z.getD k 0 < n) := q2
  have HQ3 : Hid (z.map (fun q => l.getD ((q.toNat + n - 1) % n) 0) = L) := q3
  have HE1 : Hid (Ext w w1) := E1
  clear hs HP hy1 k0 k3 k4 q1 q2 q3 q4 q5 E1
  obtain ⟨W0, hW0⟩ : ∃ W0, W0 = w1.alloc (.cells (madeCells #[.int .u8 0] n) 5) := ⟨_, rfl⟩
  have M0 : Hid (Row W0 w1.heap.size 5 (bv ((z.map (fun q => l.getD ((q.toNat + n - 1) % n) 0)).take 0 ++ List.replicate (n - 0) 0))) := by
    rw [hW0]
    have := Row.made w1 5 (.int .u8 0) n
    show Row _ _ _ _
    simpa using this
  have ME : Hid (Ext w1 W0) := by rw [hW0]; exact (Ext.refl w1).alloc _
  go_wp2
  rw [← hW0]
  clear hW0 hmk
  go_loopg [8, 9, 24] n (fun gg _ _ s wr => ∃ k : Nat, k ≤ n ∧ n - k ≤ gg ∧ s = .int .i64 k ∧ Aside (Ext w1 wr) ∧ Aside (Row wr w1.heap.size 5 (bv ((z.map (fun q => l.getD ((q.toNat + n - 1) % n) 0)).take k ++ List.replicate (n - k) 0))))
  case atStart => exact ⟨0, by omega, by omega, rfl, ME.out, M0.out⟩
  case round =>
    obtain ⟨k, hk, hgg, rfl, BW, A⟩ := hrel
    clear M0 ME
    by_cases hlt : k < n
    · have hltz : (k : Int) < (n : Int) := by omega
      have e1 := BW.out.cell (K4.out k hlt)
      obtain ⟨g0, g1⟩ := HQ2.out k hlt
      obtain ⟨cc, hcc⟩ := Int.eq_ofNat_of_zero_le g0
      obtain ⟨q, hq⟩ : ∃ q : Nat, q = (cc + n - 1) % n := ⟨_, rfl⟩
      have hqn : q < n := by rw [hq]; exact Nat.mod_lt _ h0
      have hccn : (cc : Int) < (n : Int) := by omega
      have hqz : ((cc : Int) + (n : Int) - 1).tmod (n : Int) = (q : Int) := by
        rw [hq, show (cc : Int) + (n : Int) - 1 = ((cc + n - 1 : Nat) : Int) by omega]
        rfl
      have e2 := BW.out.cell (HE1.out.cell (H4.out q hqn))
      have hzk : k < (z.map (fun q => l.getD ((q.toNat + n - 1) % n) 0)).length := by rw [List.length_map, HQ1.out]; exact hlt
      have hfl : Hid (((z.map (fun q => l.getD ((q.toNat + n - 1) % n) 0)).take k).length = k) := by show _ = _; rw [List.length_take]; omega
      have hft : Hid ((z.map (fun q => l.getD ((q.toNat + n - 1) % n) 0)).take (k + 1) = (z.map (fun q => l.getD ((q.toNat + n - 1) % n) 0)).take k ++ [l.getD q 0]) := by
        show _ = _
        rw [List.take_succ_eq_append_getElem hzk]
        congr 2
        have hzk2 : k < z.length := by simpa using hzk
        have e5 : z[k] = (cc : Int) := by
          rw [← hcc]
          simp [List.getD_eq_getElem?_getD, hzk2]
        rw [List.getElem_map, e5, Int.toNat_natCast, ← hq]
      have nx : Hid (Row (wr.setCell ⟨w1.heap.size, k, none⟩ (.int .u8 (l.getD q 0))) w1.heap.size 5 (bv ((z.map (fun q => l.getD ((q.toNat + n - 1) % n) 0)).take (k + 1) ++ List.replicate (n - (k + 1)) 0))) := by
        rw [hft.out]
        exact fill_bytes2 wr _ k n _ (l.getD q 0) hfl.out hlt A.out
      have nE : Hid (Ext w1 (wr.setCell ⟨w1.heap.size, k, none⟩ (.int .u8 (l.getD q 0)))) := BW.out.setCell (Nat.le_refl _) _
      have f1 := A.out.fr k
      obtain ⟨v1, c1⟩ : ∃ v, wr.cell? ⟨w1.heap.size, k, none⟩ = some v := ⟨_, A.out.cell k (by rw [List.length_map, List.length_append, hfl.out, List.length_replicate]; omega)⟩
      rw [hcc] at e1
      clear A BW hfl hft hzk hq g0 g1 hcc hix
      generalize l.getD q 0 = y at *
      have hqz2 : (q : Int) < (n : Int) := by omega
      go_wp2
      go_roundg (n - (k + 1))
      case measure => omega
      case rel => exact ⟨k + 1, by omega, by omega, by go_num, nE.out, nx.out⟩
    · have hk' : k = n := by omega
      subst hk'
      have C := hix.out wr BW.out
      have F : Hid (∃ y : Wd, Value.slice (some ⟨w1.heap.size, 0, none⟩) k k = y.v ∧ y.l = L ∧ Bits wr y ∧ Ext w wr) := by
        have r := A.out
        have hl : (z.map (fun q => l.getD ((q.toNat + k - 1) % k) 0)).length = k := by rw [List.length_map, HQ1.out]
        rw [Nat.sub_self, List.replicate_zero, List.append_nil, List.take_of_length_le (by omega), HQ3.out] at r
        rw [HQ3.out] at hl
        refine ⟨⟨some ⟨w1.heap.size, 0, none⟩, k, L⟩, ?_, rfl, ?_, HE1.out.trans BW.out⟩
        · simp only [Wd.v]; rw [hl]
        · have := r.bits (by rw [hl]; unfold maxLen; omega)
          rw [hl] at this
          exact this
      clear A hix
      go_wp2_with (go_at_call 20; refine C.mono ?_; rintro e w2 ⟨rfl, rfl⟩)
      go_ret3
      obtain ⟨y, e1, e2, e3, e4⟩ := F.out
      exact ⟨y, congrArg (fun v => Ending.returned (.tuple #[v, .int .i64 (at_ : Int), .int .i64 0])) e1, e2, e3, e4⟩

theorem tl_nil : tl [] = [] := List.eq_nil_of_length_eq_zero (tl_length [])

theorem turn_good (x : Wd) (w : World) (hx : Bits w x) (hin : InB x.l) (h : x.l.length ≤ 64) :
    Calls Try.prog 9 #[x.v] w fun e w' => ∃ y : Wd, e = .returned (.tuple #[y.v, .int .i64 (rk x.l 0 : Int), .int .i64 0]) ∧ y.l = tl x.l ∧ Bits w' y ∧ Ext w w' := by
  rcases Nat.eq_zero_or_pos x.l.length with h0 | h0
  · refine (turn_none x w h0).mono ?_
    rintro e w' ⟨rfl, rfl⟩
    have hl : x.l = [] := List.eq_nil_of_length_eq_zero h0
    refine ⟨⟨none, 0, []⟩, ?_, ?_, ⟨by simp, by simp, by simp, 0, 0, by simp, by simp⟩, Ext.refl _⟩
    · rw [hl]; rfl
    · rw [hl, tl_nil]
  · exact turn_some x w hx hin h0 h

end Go.Proofs.Ytkccdhidmihekaa
