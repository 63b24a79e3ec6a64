/-
  quipuref.Next.
-/
import Derived.Test.YtencpkmojjbjcaaFst
import Derived.Test.YtencpkmojjbjcaaRn
import Derived.Test.YtencpkmojjbjcaaNx
import Derived.RegionTactic
import Derived.BigRegion
namespace Go.Proofs.Ytencpkmojjbjcaa
open Go.RowKit

theorem RN.swap {w : World} {g : Nat} {z : List Int} {rest : List Value} (h : RN w g z rest) (i j : Nat) (hi : i < z.length) (hj : j < z.length) : RN ((w.setCell ⟨g, i, none⟩ (.int .i64 (z.getD j 0))).setCell ⟨g, j, none⟩ (.int .i64 (z.getD i 0))) g (sw2 z i j) rest :=
  RN.set (RN.set h i hi _) j (by simpa using hj) _

/-- What quipuref.Next tells. -/
def NextP (w : World) (z : List Int) (e : Ending) (w' : World) : Prop :=
  (∃ v m, e = .returned (.tuple #[v, .bool true]) ∧ OwnN w w' v m ∧ m.Perm z ∧ od m = od z + 1) ∨ (e = .returned (.tuple #[.slice none 0 0, .bool false]) ∧ Ext w w' ∧ od z + 1 = fc z.length)

set_option maxHeartbeats 4000000 in
set_option maxRecDepth 100000 in
theorem next_pos (x : Nm) (n : Nat) (w : World) (hx : Nums w x) (hn : x.z.length = n) (h0 : 0 < n) (h8 : n ≤ 8) (hE : Each x.z) : Calls Try.prog 21 #[x.v] w (NextP w x.z) := by
  have O0 : Hid (OwnN w (w.alloc (.cells #[] 3)) (.slice (some ⟨w.heap.size, 0, none⟩) 0 0) []) :=
    OwnN.of_row (rest := []) ((Ext.refl w).alloc _) (Nat.le_refl _) (heap_alloc_new _ _) rfl (Nat.zero_le _)
  have HX : Hid (Nums (w.alloc (.cells #[] 3)) x) := hx.ext ((Ext.refl w).alloc _)
  have hb : Hid ((([] : List Int).length + x.z.length) * 8 ≤ 140737488355328) := by show _ ≤ _; rw [hn]; simp; omega
  obtain ⟨z, hz⟩ : ∃ z, x.z = z := ⟨_, rfl⟩
  have ZZ : Hid (x.z = z) := hz
  rw [hz] at hn hE ⊢
  clear hx hz
  have HN : Hid (z.length = n) := hn
  generalize hxv : x.v = xv at *
  have HXV : Hid (x.v = xv) := hxv
  have NE : Hid (∀ i j, i < j → j < n → z.getD i 0 ≠ z.getD j 0) := fun i j h1 h2 => hE.ne h1 (by omega)
  have LAST : Hid ((∀ k, 0 ≤ k → k + 1 < n → z.getD (k + 1) 0 < z.getD k 0) → od z + 1 = fc z.length) := fun h => last_places z (fun k hk => h k (Nat.zero_le _) (by omega))
  have NXT : Hid (∀ m i j a b, Tn (sw2 z i j) m n i a b → i < j → j < n → a + b = i + n → b ≤ a → (∀ k, i < k → k + 1 < n → z.getD (k + 1) 0 < z.getD k 0) → z.getD i 0 < z.getD j 0 → (∀ k, j < k → k < n → z.getD k 0 < z.getD i 0) → m.Perm z ∧ od m = od z + 1) :=
    fun m i j a b h1 h2 h3 h4 h5 h6 h7 h8 => next_ok h1 hn h2 h3 h4 h5 h6 h7 h8
  clear hxv hn hE
  go_enter Try.func21, Try.ntmps21
  go_wp2_with (at_builtin; refine wpList_appendNums rfl _ _ rfl w _ _ (by rfl) [] O0.out x (by rw [HXV.out]; rfl) HX.out hb.out ?_; intro v1 w1 O1; have O1' : Hid (OwnN w w1 v1 z) := by (rw [ZZ.out] at O1; exact O1)
               clear O1 O0 HX hb ZZ; obtain ⟨g, cap, rest, hv, hg, hc, hm, hr, hl⟩ := O1'.out.row (by rw [HN.out]; exact h0); rw [HN.out] at hv hc hl; subst hv; have E1 : Hid (Ext w w1) := O1'.out.1; have R1 : Hid (RN w1 g z rest) := hr; clear hr O1'; unfold maxLen at hm)
  go_loopg [5] n (fun gg s5 wr => ∃ q : Nat, q + 1 ≤ n ∧ q ≤ gg ∧ s5 = .int .i64 ((q : Int) - 1) ∧ Aside (Qt w1 wr) ∧ Aside (∀ k, q ≤ k → k + 1 < n → z.getD (k + 1) 0 < z.getD k 0))
  case atStart => exact ⟨n - 1, by omega, by omega, by go_num, Qt.refl _, fun k h1 h2 => by omega⟩
  case round =>
    obtain ⟨q, hq, hgg, h5, QW, A⟩ := hrel
    cases q with
    | zero =>
      have h5' : u5 = .int .i64 (-1) := h5
      subst h5'
      have L := LAST.out A.out
      have HL : Hid (od z + 1 = fc z.length) := L
      clear h5 L LAST NXT NE A
      go_wp2
      go_quiet (fail)
      go_wp2
      go_ret2
      exact Or.inr ⟨rfl, (E1.out.trans QW.out.ext).drewN _, HL.out⟩
    | succ Q =>
      have h5' : u5 = .int .i64 (Q : Int) := by rw [h5]; congr 1; omega
      subst h5'
      have RW : Hid (RN wr g z rest) := R1.out.ext QW.out.ext
      have c1 := RW.out.cell Q (by rw [HN.out]; omega)
      have c2 := RW.out.cell (Q + 1) (by rw [HN.out]; omega)
      have ne : Hid (z.getD Q 0 ≠ z.getD (Q + 1) 0) := NE.out Q (Q + 1) (by omega) (by omega)
      have go : Hid (z.getD (Q + 1) 0 < z.getD Q 0 → ∀ k, Q ≤ k → k + 1 < n → z.getD (k + 1) 0 < z.getD k 0) := fun h k h1 h2 => by
        by_cases e : k = Q
        · subst e; exact h
        · exact A.out k (by omega) h2
      have AA : Hid (∀ k, Q + 1 ≤ k → k + 1 < n → z.getD (k + 1) 0 < z.getD k 0) := A.out
      have G1 : Hid (∃ y1, y1 = z.getD Q 0) := ⟨_, rfl⟩
      have G2 : Hid (∃ y2, y2 = z.getD (Q + 1) 0) := ⟨_, rfl⟩
      obtain ⟨y1, hy1⟩ := G1.out
      obtain ⟨y2, hy2⟩ := G2.out
      rw [← hy1] at c1
      rw [← hy2] at c2
      have HY1 : Hid (y1 = z.getD Q 0) := hy1
      have HY2 : Hid (y2 = z.getD (Q + 1) 0) := hy2
      clear hy1 hy2 G1 G2 A h5 LAST
      by_cases hlt : y2 < y1
      · have go2 : Hid (∀ k, Q ≤ k → k + 1 < n → z.getD (k + 1) 0 < z.getD k 0) := go.out (by rw [← HY1.out, ← HY2.out]; exact hlt)
        clear go AA ne NE NXT
        have hltz : (Q : Int) + 1 < (n : Int) := by omega
        have hltz2 : (Q : Int) < (n : Int) := by omega
        go_wp2
        go_quiet (fail)
        go_wp2
        go_roundg Q
        case measure => omega
        case rel => exact ⟨Q, by omega, by omega, by go_num, QW.out.drewN _, go2.out⟩
      · have hltz : (Q : Int) + 1 < (n : Int) := by omega
        have hltz2 : (Q : Int) < (n : Int) := by omega
        have less : Hid (z.getD Q 0 < z.getD (Q + 1) 0) := by
          have := ne.out
          have h1 := HY1.out
          have h2 := HY2.out
          show _ < _
          omega
        clear go ne HY2
        go_wp2
        go_quiet (fail)
        go_wp2
        clear c1 c2
        go_loopg [6] n (fun gg s6 wr' => ∃ p : Nat, Q < p ∧ p < n ∧ p ≤ gg ∧ s6 = .int .i64 p ∧ Aside (Qt w1 wr') ∧ Aside (∀ k, p < k → k < n → z.getD k 0 < z.getD Q 0))
        case atStart => exact ⟨n - 1, by omega, by omega, by omega, by go_num, QW.out.drewN _, fun k h1 h2 => by omega⟩
        case round =>
          obtain ⟨p, hp1, hp2, hgp, rfl, QP, B⟩ := hrel
          have RP : Hid (RN wr g z rest) := R1.out.ext QP.out.ext
          have d1 := RP.out.cell p (by rw [HN.out]; omega)
          have d2 := RP.out.cell Q (by rw [HN.out]; omega)
          rw [← HY1.out] at d2
          have ne : Hid (y1 ≠ z.getD p 0) := by have := NE.out Q p hp1 hp2; rw [← HY1.out] at this; exact this
          have notq : Hid (z.getD p 0 < y1 → Q + 1 < p) := fun h => by
            have := less.out
            rw [← HY1.out] at this
            rcases Nat.lt_or_ge (Q + 1) p with l | l
            · exact l
            · exfalso
              obtain rfl : p = Q + 1 := by omega
              omega
          have go : Hid (z.getD p 0 < y1 → ∀ k, p - 1 < k → k < n → z.getD k 0 < z.getD Q 0) := fun h k h1 h2 => by
            by_cases e : k = p
            · subst e; rw [← HY1.out]; exact h
            · exact B.out k (by omega) h2
          have BB : Hid (∀ k, p < k → k < n → z.getD k 0 < z.getD Q 0) := B.out
          have G3 : Hid (∃ y3, y3 = z.getD p 0) := ⟨_, rfl⟩
          obtain ⟨y3, hy3⟩ := G3.out
          rw [← hy3] at d1 ne notq go
          have HY3 : Hid (y3 = z.getD p 0) := hy3
          clear hy3 G3 B
          have hpz : (p : Int) < (n : Int) := by omega
          by_cases hlt3 : y3 < y1
          · have hp3 := notq.out hlt3
            have go2 : Hid (∀ k, p - 1 < k → k < n → z.getD k 0 < z.getD Q 0) := go.out hlt3
            clear go notq ne NE NXT BB
            go_wp2
            go_quiet (fail)
            go_wp2
            go_roundg (p - 1)
            case measure => omega
            case rel => exact ⟨p - 1, by omega, by omega, by omega, by go_num, QP.out.drewN _, go2.out⟩
          · have less3 : Hid (z.getD Q 0 < z.getD p 0) := by
              have := ne.out
              have h1 := HY1.out
              have h3 := HY3.out
              show _ < _
              omega
            clear go notq ne NE less
            go_wp2
            go_quiet (fail)
            go_wp2
            clear d1 d2
            have R2 : Hid (RN (wr.drewN nq) g z rest) := RP.out.ext ((Ext.refl wr).drewN nq)
            have E2 : Hid (Ext w (wr.drewN nq)) := (E1.out.trans QP.out.ext).drewN nq
            clear RP QP RW QW R1 E1
            generalize wr.drewN nq = W at *
            have d1 := R2.out.cell p (by rw [HN.out]; omega)
            have d2 := R2.out.cell Q (by rw [HN.out]; omega)
            have f1 := R2.out.fr Q
            have f2 := R2.out.fr p
            have SW : Hid (RN ((W.setCell ⟨g, Q, none⟩ (.int .i64 (z.getD p 0))).setCell ⟨g, p, none⟩ (.int .i64 (z.getD Q 0))) g (sw2 z Q p) rest) := R2.out.swap Q p (by rw [HN.out]; omega) (by rw [HN.out]; omega)
            rw [← HY3.out] at d1 SW
            rw [← HY1.out] at d2 SW
            have EP : Hid (Ext w ((W.setCell ⟨g, Q, none⟩ (.int .i64 y3)).setCell ⟨g, p, none⟩ (.int .i64 y1))) := (E2.out.setCell (p := ⟨g, Q, none⟩) hg _).setCell (p := ⟨g, p, none⟩) hg _
            clear R2 E2
            go_region
            go_wp2
            have TN0 : Hid (Tn (sw2 z Q p) (sw2 z Q p) n Q (Q + 1) (n - 1)) := Tn.start (by rw [sw2_length, HN.out])
            clear d1 d2 f1 f2
            go_loopg [7, 8] n (fun gg s7 s8 wr' => ∃ a b m, a + b = Q + n ∧ Q < a ∧ b < n ∧ b - a ≤ gg ∧ s7 = .int .i64 (a : Nat) ∧ s8 = .int .i64 (b : Nat) ∧ Aside (Ext w wr') ∧ Aside (RN wr' g m rest) ∧ Aside (Tn (sw2 z Q p) m n Q a b))
            case atStart => exact ⟨Q + 1, n - 1, sw2 z Q p, by omega, by omega, by omega, by omega, by go_num, by go_num, EP.out.trans (ext_drew _), SW.out.ext (ext_drew _), TN0.out⟩
            case round =>
              obtain ⟨a, b, m, hab, ha, hb, hgb, rfl, rfl, EW, RM, T⟩ := hrel
              clear SW EP TN0
              by_cases hlt4 : a < b
              · have hz4 : (a : Int) < (b : Int) := by omega
                have hz5 : (b : Int) < (n : Int) := by omega
                have hz6 : (a : Int) < (n : Int) := by omega
                have HM : Hid (m.length = n) := T.out.1
                have d1 := RM.out.cell a (by rw [HM.out]; omega)
                have d2 := RM.out.cell b (by rw [HM.out]; omega)
                have f1 := RM.out.fr a
                have f2 := RM.out.fr b
                have SW : Hid (RN ((wr.setCell ⟨g, a, none⟩ (.int .i64 (m.getD b 0))).setCell ⟨g, b, none⟩ (.int .i64 (m.getD a 0))) g (sw2 m a b) rest) := RM.out.swap a b (by rw [HM.out]; omega) (by rw [HM.out]; omega)
                have EP : Hid (Ext w ((wr.setCell ⟨g, a, none⟩ (.int .i64 (m.getD b 0))).setCell ⟨g, b, none⟩ (.int .i64 (m.getD a 0)))) := (EW.out.setCell (p := ⟨g, a, none⟩) hg _).setCell (p := ⟨g, b, none⟩) hg _
                have TN1 : Hid (Tn (sw2 z Q p) (sw2 m a b) n Q (a + 1) (b - 1)) := T.out.step hlt4 hb ha hab
                clear RM T EW NXT
                obtain ⟨ya, hya⟩ : ∃ ya, ya = m.getD a 0 := ⟨_, rfl⟩
                obtain ⟨yb, hyb⟩ : ∃ yb, yb = m.getD b 0 := ⟨_, rfl⟩
                rw [← hya] at d1 SW EP
                rw [← hyb] at d2 SW EP
                clear hya hyb
                go_wp2
                go_region
                go_wp2
                go_roundg (b - 1 - (a + 1))
                case measure => omega
                case rel => exact ⟨a + 1, b - 1, sw2 m a b, by omega, by omega, by omega, by omega, by go_num, by go_num, EP.out.trans (ext_drew _), SW.out.ext (ext_drew _), TN1.out⟩
              · have hz4 : ¬ ((a : Int) < (b : Int)) := by omega
                have HM : Hid (m.length = n) := T.out.1
                have F : Hid (m.Perm z ∧ od m = od z + 1) := NXT.out m Q p a b T.out hp1 hp2 hab (by omega) (fun k h1 h2 => AA.out k (by omega) h2) less3.out BB.out
                have O : Hid (OwnN w wr (.slice (some ⟨g, 0, none⟩) n cap) m) := by
                  have := OwnN.of_row (cap := cap) EW.out hg RM.out (by rw [HM.out]; exact hl) (by unfold maxLen; omega)
                  rw [HM.out] at this
                  exact this
                clear NXT T RM EW AA BB less3
                go_wp2
                go_ret2
                exact Or.inl ⟨_, m, rfl, O.out, F.out.1, F.out.2⟩

set_option maxHeartbeats 1000000 in
set_option maxRecDepth 100000 in
theorem next_zero (x : Nm) (w : World) (hx : Nums w x) (hn : x.z.length = 0) : Calls Try.prog 21 #[x.v] w (NextP w x.z) := by
  have O0 : Hid (OwnN w (w.alloc (.cells #[] 3)) (.slice (some ⟨w.heap.size, 0, none⟩) 0 0) []) :=
    OwnN.of_row (rest := []) ((Ext.refl w).alloc _) (Nat.le_refl _) (heap_alloc_new _ _) rfl (Nat.zero_le _)
  have HX : Hid (Nums (w.alloc (.cells #[] 3)) x) := hx.ext ((Ext.refl w).alloc _)
  have hb : Hid ((([] : List Int).length + x.z.length) * 8 ≤ 140737488355328) := by show _ ≤ _; rw [hn]; simp
  have ZZ : Hid (x.z = []) := List.eq_nil_of_length_eq_zero hn
  have HL : Hid (od x.z + 1 = fc x.z.length) := by rw [ZZ.out]; rfl
  clear hx hn
  generalize hxv : x.v = xv at *
  have HXV : Hid (x.v = xv) := hxv
  clear hxv
  go_enter Try.func21, Try.ntmps21
  go_wp2_with (at_builtin; refine wpList_appendNums rfl _ _ rfl w _ _ (by rfl) [] O0.out x (by rw [HXV.out]; rfl) HX.out hb.out ?_; intro v1 w1 O1; have O1' : Hid (OwnN w w1 v1 []) := by (rw [ZZ.out] at O1; exact O1)
               clear O1 O0 HX hb ZZ; obtain ⟨a1, cc, hv⟩ := O1'.out.form; subst hv; have E1 : Hid (Ext w w1) := O1'.out.1; clear O1')
  go_loopg [5] 0 (fun _ s5 wr => s5 = .int .i64 (-2) ∧ wr = w1)
  case atStart => exact ⟨rfl, rfl⟩
  case round =>
    obtain ⟨rfl, rfl⟩ := hrel
    go_wp2
    go_quiet (fail)
    go_wp2
    go_ret2
    exact Or.inr ⟨rfl, E1.out.drewN _, HL.out⟩

theorem next_any (x : Nm) (n : Nat) (w : World) (hx : Nums w x) (hn : x.z.length = n) (h8 : n ≤ 8) (hE : Each x.z) : Calls Try.prog 21 #[x.v] w (NextP w x.z) := by
  rcases Nat.eq_zero_or_pos n with h | h
  · exact next_zero x w hx (by omega)
  · exact next_pos x n w hx hn h h8 hE
end Go.Proofs.Ytencpkmojjbjcaa
