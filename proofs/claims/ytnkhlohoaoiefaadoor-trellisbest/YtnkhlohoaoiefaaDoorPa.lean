/-
  (trellis.path).with, (trellis.pair).apart, (trellis.path).better.
-/
import Derived.Test.YtnkhlohoaoiefaaDoorMk
import Derived.Test.YtnkhlohoaoiefaaDoorPu
import Derived.BigQuiet
namespace Go.Proofs.YtnkhlohoaoiefaaDoor
open Go.RowKit
set_option linter.unusedVariables false

theorem sizePath : (Tryd.prog.info? 39).map (·.size) = some 2 := by kernel_rfl

theorem ret_path {fn : Func} {p : Tmp} (h : fn.results = #[.cell p 39]) (tmps : Array Value) (w : World) (g : Nat) (cs : Array Value) (hs : cs.size = 2)
    (hp : tmps.getD p undef = .pointer (some ⟨g, 0, none⟩)) (hg : w.heap[g]? = some (.cells cs 39 (0, 0))) : (results fn tmps).run Tryd.prog w = .ok (.agg cs) w := by
  exact results_cell_row h tmps w g 39 cs (0, 0) _ hp hg Tryd.underlying39 rfl (by rw [sizePath, hs])

theorem with_any (x d c : Nat) (q : Bool) (hx : x ≤ 1048576) (hd : d ≤ 1048576) (hc : c ≤ 1048576) (w : World) : Calls Tryd.prog 21 #[pth (x, d), .bool q, .int .i64 (c : Int)] w fun e w' => e = .returned (pth (wi (x, d) q c)) ∧ Ext w w' := by
  cases q
  · go_enter Tryd.func21, Tryd.ntmps21
    go_wp2
    exact bodyPost_ret (ret_path rfl _ _ (w.heap.size + 1) #[.int .i64 (2 * (x : Int)), .int .i64 ((d : Int) + (c : Int))] rfl rfl (by rw [heap_alloc_old _ _ (by simp)]; exact heap_alloc2_new _ _ _)) rfl ⟨by simp [pth, wi], (((Ext.refl w).alloc _).alloc _).alloc _⟩
  · go_enter Tryd.func21, Tryd.ntmps21
    go_wp2
    exact bodyPost_ret (ret_path rfl _ _ (w.heap.size + 1) #[.int .i64 (2 * (x : Int) + 1), .int .i64 ((d : Int) + (c : Int))] rfl rfl (by rw [heap_alloc_old _ _ (by simp)]; exact heap_alloc2_new _ _ _)) rfl ⟨by simp [pth, wi], (((Ext.refl w).alloc _).alloc _).alloc _⟩

theorem better_any (p o : Nat × Nat) (w : World) : Calls Tryd.prog 23 #[pth p, pth o] w fun e w' => e = .returned (.bool (bt p o)) ∧ Ext w w' := by
  obtain ⟨p1, p2⟩ := p
  obtain ⟨o1, o2⟩ := o
  by_cases h : p2 = o2
  · have hz : (p2 : Int) = (o2 : Int) := by omega
    have hb : bt (p1, p2) (o1, o2) = decide (p1 < o1) := by
      unfold bt
      rw [if_pos h]
    rw [hb]
    clear hb h
    simp only [pth]
    go_enter Tryd.func23, Tryd.ntmps23
    go_wp2
    go_ret
    exact ⟨rfl, ((Ext.refl w).alloc _).alloc _⟩
  · have hz : ¬ (p2 : Int) = (o2 : Int) := by omega
    have hb : bt (p1, p2) (o1, o2) = decide (p2 < o2) := by
      unfold bt
      rw [if_neg h]
    rw [hb]
    clear hb h
    simp only [pth]
    go_enter Tryd.func23, Tryd.ntmps23
    go_wp2
    go_ret
    exact ⟨rfl, ((Ext.refl w).alloc _).alloc _⟩

theorem apart_any (p0 p1 a b : Bool) (w : World) : Calls Tryd.prog 22 #[pv p0 p1, pv a b] w fun e w' => e = .returned (.int .i64 (((if (p0 != a) = true then 1 else 0) + (if (p1 != b) = true then 1 else 0) : Nat) : Int)) ∧ Ext w w' := by
  obtain ⟨S, hS⟩ : ∃ S : Nat → Nat, ∀ k, S k = (if k = 0 then 0 else if k = 1 then (if (p0 != a) = true then 1 else 0) else (if (p0 != a) = true then 1 else 0) + (if (p1 != b) = true then 1 else 0)) := ⟨_, fun _ => rfl⟩
  have e2 : S 2 = (if (p0 != a) = true then 1 else 0) + (if (p1 != b) = true then 1 else 0) := hS 2
  rw [← e2]
  have S0 : Hid (S 0 = 0) := hS 0
  have S1 : Hid (S 1 = S 0 + (if (p0 != a) = true then 1 else 0)) := by show _ = _; rw [hS, hS]; simp
  have S2 : Hid (S 2 = S 1 + (if (p1 != b) = true then 1 else 0)) := by show _ = _; rw [hS, hS]; simp
  have SL : Hid (∀ k, S k ≤ 2) := fun k => by
    rw [hS]
    repeat' split
    all_goals omega
  clear hS e2
  go_enter Tryd.func22, Tryd.ntmps22
  go_wp2_with fail
  have E0 : Hid (Ext w ((w.alloc (.cells #[.bool p0, .bool p1] 42)).alloc (.cells #[.bool a, .bool b] 42))) := ((Ext.refl w).alloc _).alloc _
  go_loopg [5, 6, 7] 2 (fun gg s5 _ s7 wr => ∃ k : Nat, k ≤ 2 ∧ 2 - k ≤ gg ∧ s7 = .int .i64 k ∧ s5 = .int .i64 (S k : Nat) ∧ Aside (Qt ((w.alloc (.cells #[.bool p0, .bool p1] 42)).alloc (.cells #[.bool a, .bool b] 42)) wr))
  case atStart => exact ⟨0, by omega, by omega, rfl, by rw [S0.out]; rfl, Qt.refl _⟩
  case round =>
    obtain ⟨k, hk, hgg, rfl, rfl, E⟩ := hrel
    have Q : Hid (Qt ((w.alloc (.cells #[.bool p0, .bool p1] 42)).alloc (.cells #[.bool a, .bool b] 42)) wr) := E.out
    have r0 : Row ((w.alloc (.cells #[.bool p0, .bool p1] 42)).alloc (.cells #[.bool a, .bool b] 42)) w.heap.size 42 [.bool p0, .bool p1] := (row_last w [.bool p0, .bool p1] 42).ext ((Ext.refl _).alloc _)
    have r1 : Row ((w.alloc (.cells #[.bool p0, .bool p1] 42)).alloc (.cells #[.bool a, .bool b] 42)) (w.heap.size + 1) 42 [.bool a, .bool b] := by
      have := row_last (w.alloc (.cells #[.bool p0, .bool p1] 42)) [.bool a, .bool b] 42
      rw [World.size_alloc] at this
      exact this
    clear E
    obtain rfl | rfl | rfl : k = 0 ∨ k = 1 ∨ k = 2 := by omega
    · have e0 := Q.out.cell (r0.cell 0 (by simp))
      have e1 := Q.out.cell (r1.cell 0 (by simp))
      have SN : Hid (S 1 = S 0 + (if (p0 != a) = true then 1 else 0)) := S1.out
      have sl := SL.out 0
      clear S1 S2 SL S0 r0 r1
      generalize S 0 = s at *
      cases p0 <;> cases a
      all_goals
        go_wp2
        go_quiet (fail)
        go_wp2
        go_roundg 1
        case measure => omega
        case rel => exact ⟨1, by omega, by omega, by go_num, by rw [SN.out]; first | rfl | go_num, Q.out.drewN _⟩
    · have e0 := Q.out.cell (r0.cell 1 (by simp))
      have e1 := Q.out.cell (r1.cell 1 (by simp))
      have SN : Hid (S 2 = S 1 + (if (p1 != b) = true then 1 else 0)) := S2.out
      have sl := SL.out 1
      clear S1 S2 SL S0 r0 r1
      generalize S 1 = s at *
      cases p1 <;> cases b
      all_goals
        go_wp2
        go_quiet (fail)
        go_wp2
        go_roundg 0
        case measure => omega
        case rel => exact ⟨2, by omega, by omega, by go_num, by rw [SN.out]; first | rfl | go_num, Q.out.drewN _⟩
    · clear S1 S2 SL S0 r0 r1
      go_wp2
      go_ret
      exact ⟨rfl, E0.out.trans Q.out.ext⟩

end Go.Proofs.YtnkhlohoaoiefaaDoor
