/-
  span.sums: all sums of rows, each once, rising.
-/
import Derived.Test.YtdfjjjcaibadoabDoorSu
import Derived.Test.YtdfjjjcaibadoabDoorSz
import Derived.Test.YtdfjjjcaibadoabDoorCo
namespace Go.Proofs.YtdfjjjcaibadoabDoor
open Go.RowKit

theorem new_one (w : World) (v : Value) (t : TypeId) : (w.alloc (.cells #[v] t)).cell? ⟨w.heap.size, 0, none⟩ = some v := cell_one_new w v t 0 v rfl

/-- A list of one's own that has words, as a row. -/
theorem OwnU.row {w0 w : World} {v : Value} {z : List Nat} (h : OwnU w0 w v z) (hz : 0 < z.length) : ∃ (g cap : Nat) (r : List Value), v = .slice (some ⟨g, 0, none⟩) z.length cap ∧ w0.heap.size ≤ g ∧ cap ≤ maxLen ∧ z.length + r.length = cap ∧ Row w g 23 (uv z ++ r) := by
  obtain ⟨_, h1, h2⟩ := h
  rcases h2 with ⟨_, h0⟩ | ⟨g, cap, cur, rfl, hg, hh, hle, hm, hs, ht⟩
  · omega
  · refine ⟨g, cap, cur.toList.drop z.length, rfl, hg, hm, ?_, ?_⟩
    · have hcl : cur.toList.length = cap := by simpa using hs
      rw [List.length_drop, hcl]; omega
    · show w.heap[g]? = _
      rw [hh, ← ht, Nat.mul_one, List.take_append_drop]
theorem OwnU.of_row {w0 w : World} {g cap : Nat} {z : List Nat} {r : List Value} (e : Ext w0 w) (hg : w0.heap.size ≤ g) (hm : cap ≤ maxLen) (hl : z.length + r.length = cap) (h : Row w g 23 (uv z ++ r)) : OwnU w0 w (.slice (some ⟨g, 0, none⟩) z.length cap) z := by
  refine ⟨e, by simp, Or.inr ⟨g, cap, (uv z ++ r).toArray, rfl, hg, h, by omega, hm, by simp; omega, ?_⟩⟩
  simp

/-- What span.sums tells. -/
def SO (w : World) (g : List Nat) (e : Ending) (w' : World) : Prop := ∃ (v : Value) (ys : List Nat), e = .returned v ∧ OwnU w w' v ys ∧ ys.Pairwise (· < ·) ∧ ∀ y, y ∈ ys ↔ inb g y = true

theorem range_mem (g : List Nat) (m : Nat) (hm : g.length = m) (y : Nat) : y ∈ (List.range (2 ^ m)).map (sm g) ↔ inb g y = true := by
  rw [List.mem_map, inb_iff, hm]
  exact ⟨fun ⟨s, hs, e⟩ => ⟨s, List.mem_range.1 hs, e⟩, fun ⟨s, hs, e⟩ => ⟨s, List.mem_range.2 hs, e⟩⟩

set_option maxHeartbeats 2000000 in
theorem sums_any (x : Um) (hl : x.z.length ≤ 8) (hb : ∀ y ∈ x.z, y < 4294967296) (w : World) (hx : Us w x) :
    Calls Tryd.prog 12 #[x.v] w fun e w' => Hid (SO w x.z e w') := by
  have eg : ∀ args w, (callFunc 22 args).run Tryd.prog w = .ok (.enter 22 args) w := fun args w => by rfl
  have SF : Hid (∀ (k B : Nat) (W : World), k < 4294967296 → Ext w W → W.cell? ⟨B, 0, none⟩ = some (.int .u32 (k : Nat)) → Calls Tryd.prog 23 #[x.v, .func (.func 22) #[] #[.pointer (some ⟨B, 0, none⟩)]] W fun e w' => e = .returned (.int .u32 (sm x.z k : Nat)) ∧ Ext W w') := fun k B W hk E hc =>
    sumOf_any x 22 _ (fun i => k.testBit i) (by omega) hb W eg (hx.ext E) (fun W2 j hj E2 => chosen_any k j hk (by omega) ⟨B, 0, none⟩ W2 (E2.cell hc))
  have SL : Hid (∀ k, sm x.z k < 4294967296) := fun k => sP_32 hb _ (Nat.le_refl _)
  have RM := range_mem x.z x.z.length rfl
  have pw : (2 : Int) ^ x.z.length % 4294967296 = ((2 ^ x.z.length : Nat) : Int) := pow_in _ (by omega)
  have hM : 2 ^ x.z.length ≤ 2 ^ 8 := Nat.pow_le_pow_right (by omega) hl
  have hM0 : 0 < 2 ^ x.z.length := Nat.two_pow_pos _
  clear eg hb hx
  unfold SO
  obtain ⟨a, c, g⟩ := x
  simp only [Um.v] at *
  obtain ⟨m, hm⟩ : ∃ m, g.length = m := ⟨_, rfl⟩
  rw [hm] at hl SF RM pw hM hM0 ⊢
  clear hm
  have RM' : Hid (∀ y, y ∈ (List.range (2 ^ m)).map (sm g) ↔ inb g y = true) := RM
  clear RM
  generalize inb g = IB at *
  generalize sm g = F at *
  generalize hMM : 2 ^ m = M at *
  have SRT : Hid (∀ (B c n : Nat) (z : List Nat) (r : List Value) (w : World), Row w B 23 (uv z ++ r) → z.length = n → n ≤ 1000 → Calls Tryd.prog 24 #[.slice (some ⟨B, 0, none⟩) n c] w
      fun e w' => e = .returned (.tuple #[]) ∧ Hid (∃ z' : List Nat, z'.Perm z ∧ z'.Pairwise (· ≤ ·) ∧ Row w' B 23 (uv z' ++ r)) ∧ Hid (KB B w w')) := fun B c n z r w h1 h2 h3 => sort_any B c n z r w h1 h2 h3
  have CMP : Hid (∀ (B c m : Nat) (z : List Nat) (r : List Value) (w : World), Row w B 23 (uv z ++ r) → z.length = m → m ≤ 1000 → m + r.length = c → z.Pairwise (· ≤ ·) → Calls Tryd.prog 25 #[.slice (some ⟨B, 0, none⟩) m c] w fun e w' => Hid (CO B c z w e w')) := fun B c m z r w h1 h2 h3 h4 h5 => compact_any B c m z r w h1 h2 h3 h4 h5
  go_enter Tryd.func12, Tryd.ntmps12
  go_wp2
  rw [pw]
  clear pw
  go_loopg [3, 9] M (fun gg s3 s9 wr => ∃ k : Nat, k ≤ M ∧ M - k ≤ gg ∧ s9 = .int .u32 k ∧ Aside (OwnU w wr s3 ((List.range k).map F)))
  case atStart => exact ⟨0, Nat.zero_le _, by omega, rfl, OwnU.nil (Ext.refl _)⟩
  case round =>
    obtain ⟨k, hk, hg, rfl, O⟩ := hrel
    by_cases hlt : k < M
    · have hltz : (k : Int) < (M : Int) := by omega
      obtain ⟨y, rfl, hz, hus⟩ := O.out.us
      have OO : Hid (OwnU w wr y.v ((List.range k).map F)) := O.out
      have AE : Hid (Ext wr (wr.alloc (.cells #[.int .u32 (k : Nat)] 23))) := (Ext.refl wr).alloc _
      have c2 := SF.out k wr.heap.size (wr.alloc (.cells #[.int .u32 (k : Nat)] 23)) (by omega) (OO.out.1.trans AE.out) (new_one _ _ _)
      have ln : Hid (((List.range k).map F).length = y.z.length) := by show _ = _; rw [hz]
      have hfl : Hid ((((List.range k).map F).length + 1) * 4 ≤ 140737488355328) := by show _ ≤ _; simp; omega
      have NX : Hid ((List.range (k + 1)).map F = (List.range k).map F ++ [F k]) := by show _ = _; rw [List.range_succ, List.map_append]; rfl
      clear O hus hz SRT CMP RM' SF
      obtain ⟨ay, cy, zy⟩ := y
      simp only [Um.v] at *
      generalize F k = q at *
      generalize zy.length = ly at *
      go_wp2_with (first | (go_at_call 23; refine c2.mono ?_; rintro e w2 ⟨rfl, E2⟩; have O2 : Hid (OwnU w w2 (.slice ay ly cy) ((List.range k).map F)) := OO.out.ext (AE.out.trans E2)) | (at_builtin; refine wpList_appendU rfl _ _ rfl w _ (.slice ay ly cy) (by rfl) _ O2.out q (by rfl) hfl.out ?_; intro v' w3 O3; have O3' : Hid (OwnU w w3 v' ((List.range (k + 1)).map F)) := by (rw [NX.out]; exact O3)))
      go_roundg (M - (k + 1))
      case measure => omega
      case rel => exact ⟨k + 1, by omega, by omega, by go_num, O3'.out⟩
    · obtain rfl : k = M := by omega
      have hltz : ¬ (k : Int) < (k : Int) := by omega
      have hlen : ((List.range k).map F).length = k := by simp
      obtain ⟨B, cap, r, hv, hg0, hcm, hcl, hrow⟩ := O.out.row (by omega)
      obtain rfl := hv
      have E0 : Hid (Ext w wr) := O.out.1
      have HG : Hid (w.heap.size ≤ B) := hg0
      have HCM : Hid (cap ≤ maxLen) := hcm
      have c1 := SRT.out B cap k _ r wr hrow hlen (by omega)
      rw [hlen] at hcl ⊢
      have HCL : Hid (k + r.length = cap) := hcl
      clear O SF SRT SL hrow hg0 hcm hcl
      go_wp2_with fail
      refine c1.mono ?_
      rintro e w2 ⟨rfl, z0, k2⟩
      obtain ⟨z', p1, p2, p3⟩ := z0.out
      have hl2 : z'.length = k := by rw [p1.length_eq]; exact hlen
      have c2 := CMP.out B cap k z' r w2 p3 hl2 (by omega) HCL.out p2
      have PM : Hid (∀ y, y ∈ z' ↔ IB y = true) := fun y => (p1.mem_iff).trans (RM'.out y)
      clear c1 z0 p1 p2 p3 CMP RM'
      go_wp2_with fail
      refine c2.mono ?_
      intro e w3 h3
      obtain ⟨ys, rest, rfl, f1, f2, f3, f4, k3⟩ := h3.out
      have F1 : Hid (ys.Pairwise (· < ·) ∧ ∀ y, y ∈ ys ↔ IB y = true) := ⟨f1, fun y => (f2 y).trans (PM.out y)⟩
      have F2 : Hid (OwnU w w3 (.slice (some ⟨B, 0, none⟩) ys.length cap) ys) := OwnU.of_row ((k2.out.trans k3).ext E0.out HG.out) HG.out HCM.out f4 f3
      clear c2 h3 f1 f2 f3 f4 k3 PM
      generalize hyl : ys.length = yl at *
      go_wp2
      go_ret
      exact ⟨_, ys, rfl, F2.out, F1.out.1, F1.out.2⟩

end Go.Proofs.YtdfjjjcaibadoabDoor
