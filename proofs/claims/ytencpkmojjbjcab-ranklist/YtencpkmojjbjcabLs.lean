/-
  rank.List.
-/
import Derived.Test.YtencpkmojjbjcabRn
import Derived.Test.YtencpkmojjbjcabLi
import Derived.Test.YtencpkmojjbjcabDel
import Derived.Laws.OwnMore
namespace Go.Proofs.Ytencpkmojjbjcab
open Go.RowKit

/-- 'make([]int, 0, n)'. -/
theorem make_room (n : Nat) (hn : n ≤ 8) (w : World) : (Instr.makeSlice 27 (.int .i64 0) (.int .i64 (n : Int))).run Try.prog w = .ok (.slice (some ⟨w.heap.size, 0, none⟩) 0 n) (w.alloc (.cells (madeCells #[.int .i64 0] n) 3)) := by
  obtain ⟨i0, hi, hz0, hz1, hz2⟩ := info_parts info3
  have hr := run_make (P := Try.prog) w 27 3 i0 _ Try.underlying27 hi hz0 .i64 .i64 0 (n : Int) (Int.le_refl _) (by omega) (by rw [hz2]; omega) (by omega)
  rw [hz1, Nat.mul_one] at hr
  exact hr

/-- Lists of one's own, by the number of the first block that is one's own. -/
abbrev OwR (w : World) (base : Nat) (v : Value) (z : List Int) : Prop := w.ownsRow base 3 1 v z.length (iv z)

theorem OwR.kb {w w' : World} {base B : Nat} {v : Value} {z : List Int} (h : OwR w base v z) (e : KB B w w') (hB : B < base) : OwR w' base v z := by
  obtain ⟨h1, h2⟩ := h
  refine ⟨h1, ?_⟩
  rcases h2 with h2 | ⟨g, cap, cur, hv, hg, hh, r⟩
  · exact Or.inl h2
  · refine Or.inr ⟨g, cap, cur, hv, hg, ?_, r⟩
    rw [e.block g (lt_of_block hh) (by omega)]
    exact hh
theorem OwR.own {w0 w : World} {base : Nat} {v : Value} {z : List Int} (h : OwR w base v z) (e : Ext w0 w) (hb : w0.heap.size ≤ base) : OwnN w0 w v z := by
  obtain ⟨h1, h2⟩ := h
  refine ⟨e, h1, ?_⟩
  rcases h2 with h2 | ⟨g, cap, cur, hv, hg, r⟩
  · exact Or.inl h2
  · exact Or.inr ⟨g, cap, cur, hv, by omega, r⟩

theorem wpList_appendNumR {ops : Array Oper} {rest : List Oper} {o : Oper} {a : Act} {Q : Exit → Act → World → Prop} (hgd : o.guard = none) (s x : Operand)
    (ho : o.op = .call { callee := .builtin .append, args := #[s, x], argTypes := #[27, 27] }) (base : Nat) (wr : World) (v : Value) (hs : a.eval s = v) (z : List Int) (hown : OwR wr base v z) (hbase : base ≤ wr.heap.size)
    (q : Int) (hx : a.eval x = .slice (some ⟨wr.heap.size, 0, none⟩) 1 1) (hb : (z.length + 1) * 8 ≤ 140737488355328)
    (h : ∀ v' w', OwR w' base v' (z ++ [q]) → (∀ B t l, B < base → Row wr B t l → Row w' B t l) → (∀ w0, Ext w0 wr → w0.heap.size ≤ base → Ext w0 w') → base ≤ w'.heap.size → wpList Try.prog ops Q rest (a.put o.dst v') w') : wpList Try.prog ops Q (o :: rest) a (wr.alloc (.cells #[.int .i64 q] 3)) := by
  obtain ⟨i0, hi, hz0, hz1, hz2⟩ := info_parts info3
  refine wpList_append_own _ hgd s x 27 ho base 3 i0 (.int .i64 0) 1 8 Try.underlying27 hi hz0 hz1 hz2 rfl (by decide) v z.length (iv z) hs (hown.alloc _) ⟨wr.heap.size, 0, none⟩ 1 1 [.int .i64 q] hx rfl ?_ ?_ ?_ hb ?_ ?_
  · exact cell_one_new _ _ _
  · intro u hu; simp at hu; subst hu; rfl
  · unfold maxLen; omega
  · simp; omega
  · intro v' w' hown' hgr _
    have hne : ∀ B, B < base → some B ≠ v.ownBlock := fun B hB e => by
      have := (hown.lt B e.symm).1
      omega
    refine h v' w' ?_ ?_ ?_ ?_
    · show w'.ownsRow base 3 1 v' (z ++ [q]).length (iv (z ++ [q]))
      rw [List.length_append]
      simpa using hown'
    · intro B t l hB hr
      have e1 : Row (wr.alloc (.cells #[.int .i64 q] 3)) B t l := hr.ext ((Ext.refl wr).alloc _)
      show w'.heap[B]? = _
      rw [hgr.block B e1.lt (hne B hB)]
      exact e1
    · intro w0 e0 hw0
      have e1 : Ext w0 (wr.alloc (.cells #[.int .i64 q] 3)) := e0.alloc _
      exact Below.grown e1 hgr e1.size (fun k hk => Nat.le_trans hw0 (hown.lt k hk).1)
    · have := hgr.size
      simp at this
      omega

theorem list_large (n i : Int) (h : cer n = 1) (w : World) : Calls Try.prog 8 #[.int .i64 n, .int .i64 i] w fun e w' => e = .returned (.tuple #[.slice none 0 0, .int .i64 1]) ∧ w' = w := by
  have c0 := checkCount_any n w
  rw [h] at c0
  go_enter Try.func8, Try.ntmps8
  go_wp2_with fail
  refine c0.mono ?_
  rintro e w' ⟨rfl, rfl⟩
  go_wp2
  go_ret2
  exact ⟨rfl, rfl⟩

theorem list_none (n : Nat) (i : Int) (hn : n ≤ 8) (h : ¬ (0 ≤ i ∧ i < (fc n : Nat))) (w : World) : Calls Try.prog 8 #[.int .i64 n, .int .i64 i] w fun e w' => e = .returned (.tuple #[.slice none 0 0, .int .i64 5]) ∧ w' = w := by
  have c0 := checkCount_any n w
  rw [cer_ok (by omega) (by omega)] at c0
  have c1 := orders_any n hn w
  generalize fc n = F at *
  rcases Int.lt_or_le i 0 with h0 | h0
  · clear c1
    go_enter Try.func8, Try.ntmps8
    go_wp2_with fail
    refine c0.mono ?_
    rintro e w' ⟨rfl, rfl⟩
    go_wp2
    go_ret2
    exact ⟨rfl, rfl⟩
  · have h1 : (F : Int) ≤ i := by omega
    go_enter Try.func8, Try.ntmps8
    go_wp2_with fail
    refine c0.mono ?_
    rintro e w' ⟨rfl, rfl⟩
    go_wp2_with fail
    refine c1.mono ?_
    rintro e w' ⟨rfl, rfl⟩
    go_wp2
    go_ret2
    exact ⟨rfl, rfl⟩

theorem list_step {M I : Nat} {L acc T : List Int} (hL : L.length = M + 1) (hI : I < fc (M + 1)) (h : acc ++ li (M + 1) L I = T) :
    I / fc M < M + 1 ∧ I % fc M < fc M ∧ (L.eraseIdx (I / fc M)).length = M ∧ (acc ++ [L.getD (I / fc M) 0]) ++ li M (L.eraseIdx (I / fc M)) (I % fc M) = T := by
  have hp : I / fc M < M + 1 := by
    have : I < fc M * (M + 1) := hI
    rw [Nat.div_lt_iff_lt_mul (fc_pos M), Nat.mul_comm]
    exact this
  refine ⟨hp, Nat.mod_lt _ (fc_pos M), by rw [List.length_eraseIdx, if_pos (by omega)]; omega, ?_⟩
  rw [← h, List.append_assoc]
  rfl

set_option maxHeartbeats 4000000 in
theorem list_good (n i : Nat) (hn : n ≤ 8) (hi : i < fc n) (w : World) : Calls Try.prog 8 #[.int .i64 n, .int .i64 i] w fun e w' => ∃ v, e = .returned (.tuple #[v, .int .i64 0]) ∧ OwnN w w' v (li n (frst n) i) := by
  have c0 := checkCount_any n w
  rw [cer_ok (by omega) (by omega)] at c0
  have ORD : Hid (∀ (m : Nat) W, m ≤ 8 → Calls Try.prog 16 #[.int .i64 m] W fun e w' => e = .returned (.int .i64 (fc m : Nat)) ∧ w' = W) := fun m W hm => orders_any m hm W
  have c1 := orders_any n hn w
  have c2 := numbersBelow_any n hn w
  have hmk := make_room n hn
  have few : fc n ≤ 40320 := fc_few' hn
  have DEL : Hid (∀ (g cap m p : Nat) (z : List Int) (rest : List Value) (W : World), Row W g 3 (iv z ++ rest) → z.length = m → m + rest.length = cap → p < m → cap ≤ 8 → Calls Try.prog 18 #[.slice (some ⟨g, 0, none⟩) m cap, .int .i64 p, .int .i64 ((p : Int) + 1)] W fun e w' => e = .returned (.slice (some ⟨g, 0, none⟩) (m - 1) cap) ∧ Row w' g 3 (iv (z.eraseIdx p) ++ .int .i64 0 :: rest) ∧ KB g W w') := fun g cap m p z rest W h1 h2 h3 h4 h5 => delete_any g cap m p z rest W h1 h2 h3 h4 h5
  obtain ⟨T, hT⟩ : ∃ T, li n (frst n) i = T := ⟨_, rfl⟩
  rw [hT]
  have A0 : Hid (i < fc n ∧ [] ++ li n (frst n) i = T) := ⟨hi, by rw [List.nil_append]; exact hT⟩
  clear hT
  have hd : ¬ (fc n ≤ i) := by omega
  have hi4 : i ≤ 40320 := by omega
  obtain ⟨F, hF⟩ : ∃ F, fc n = F := ⟨_, rfl⟩
  rw [hF] at c1 hd
  clear hF hi few
  go_enter Try.func8, Try.ntmps8
  go_wp2_with fail
  refine c0.mono ?_
  rintro e w' ⟨rfl, rfl⟩
  clear c0
  go_wp2_with fail
  refine c1.mono ?_
  rintro e w' ⟨rfl, rfl⟩
  clear c1
  go_wp2_with fail
  refine c2.mono ?_
  rintro e w1 ⟨rfl, hR, hE⟩
  have E1 : Hid (Ext w' w1) := hE
  have R1 : Hid (Row w1 w'.heap.size 3 (iv (frst n))) := hR
  clear c2 hR hE
  have hB : Hid (w'.heap.size < w1.heap.size) := R1.out.lt
  have S0 : Hid (∃ W, W = w1.alloc (.cells (madeCells #[.int .i64 0] n) 3) ∧ Ext w' W ∧ Row W w'.heap.size 3 (iv (frst n) ++ []) ∧ OwR W w1.heap.size (.slice (some ⟨w1.heap.size, 0, none⟩) 0 n) [] ∧ w1.heap.size ≤ W.heap.size) := by
    refine ⟨_, rfl, E1.out.alloc _, ?_, ?_, by simp⟩
    · rw [List.append_nil]
      exact R1.out.ext ((Ext.refl w1).alloc _)
    · exact World.ownsRow_made w1 _ n (Nat.le_refl _) (by unfold maxLen; omega) (by rw [Nat.mul_one]; exact size_madeCells _ _)
  go_wp2
  obtain ⟨W0, hW0, e0, r0, o0, z0⟩ := S0.out
  rw [← hW0]
  have P0 : Hid (Ext w' W0 ∧ Row W0 w'.heap.size 3 (iv (frst n) ++ []) ∧ OwR W0 w1.heap.size (.slice (some ⟨w1.heap.size, 0, none⟩) 0 n) [] ∧ w1.heap.size ≤ W0.heap.size) := ⟨e0, r0, o0, z0⟩
  clear hW0 e0 r0 o0 z0 S0 R1 E1 hmk
  generalize w1.heap.size = base at *
  have HB : Hid (∀ W0 : World, W0 = w' → W0.heap.size ≤ base) := fun W0 e => by rw [e]; have := hB.out; omega
  generalize hBB : w'.heap.size = B at *
  have HBB : Hid (w'.heap.size = B) := hBB
  clear hBB
  go_loopg [1, 7, 8] n (fun gg s1 s7 s8 wr => ∃ (m I : Nat) (L acc : List Int) (rest : List Value), m ≤ n ∧ m ≤ gg ∧ I ≤ 40320 ∧ s1 = .int .i64 I ∧ s7 = .slice (some ⟨B, 0, none⟩) m n ∧ Aside (L.length = m ∧ m + rest.length = n ∧ acc.length + m = n ∧ I < fc m ∧ acc ++ li m L I = T) ∧ Aside (Ext w' wr ∧ Row wr B 3 (iv L ++ rest) ∧ OwR wr base s8 acc ∧ base ≤ wr.heap.size))
  case atStart => exact ⟨n, i, frst n, [], [], Nat.le_refl _, Nat.le_refl _, hi4, rfl, rfl, ⟨frst_length n, rfl, by simp, A0.out.1, A0.out.2⟩, P0.out⟩
  case round =>
    obtain ⟨m, I, L, acc, rest, hm, hgg, hI, rfl, rfl, A, WW⟩ := hrel
    clear P0 A0
    cases m with
    | zero =>
      have OO : Hid (OwnN w' wr u8 T) := by
        have e : acc = T := by
          have := A.out.2.2.2.2
          have l0 : li 0 L I = [] := rfl
          rw [l0, List.append_nil] at this
          exact this
        have := OwR.own WW.out.2.2.1 WW.out.1 (HB.out w' rfl)
        rw [e] at this
        exact this
      clear A WW HB ORD DEL
      go_wp2
      go_ret2
      exact ⟨_, rfl, OO.out⟩
    | succ M =>
      obtain ⟨hL, hrl, hal, hIf, hT⟩ := A.out
      obtain ⟨s1, s2, s3, s4⟩ := list_step hL hIf hT
      have few : fc M ≤ 40320 := fc_few' (by omega)
      have fp := fc_pos M
      have c1 := ORD.out M wr (by omega)
      obtain ⟨p, hp⟩ : ∃ p, I / fc M = p := ⟨_, rfl⟩
      obtain ⟨r, hr⟩ : ∃ r, I % fc M = r := ⟨_, rfl⟩
      have q1 : (I : Int).tdiv (fc M : Nat) = p := by rw [← Int.ofNat_tdiv, hp]
      have q2 : (I : Int).tmod (fc M : Nat) = r := by rw [← Int.ofNat_tmod, hr]
      rw [hp] at s1 s3 s4
      rw [hr] at s2 s4
      have hr4 : r ≤ 40320 := by omega
      have cL : wr.cell? ⟨B, p, none⟩ = some (.int .i64 (L.getD p 0)) := RN.cell WW.out.2.1 p (by omega)
      have DL : Hid (∀ (W : World), Row W B 3 (iv L ++ rest) → Calls Try.prog 18 #[.slice (some ⟨B, 0, none⟩) (M + 1) n, .int .i64 p, .int .i64 ((p : Int) + 1)] W fun e w' => e = .returned (.slice (some ⟨B, 0, none⟩) M n) ∧ Row w' B 3 (iv (L.eraseIdx p) ++ .int .i64 0 :: rest) ∧ KB B W w') := fun W h => by
        have := DEL.out B n (M + 1) p L rest W h hL hrl s1 hn
        exact this
      have A2 : Hid ((L.eraseIdx p).length = M ∧ M + (Value.int .i64 0 :: rest).length = n ∧ (acc ++ [L.getD p 0]).length + M = n ∧ r < fc M ∧ (acc ++ [L.getD p 0]) ++ li M (L.eraseIdx p) r = T) := ⟨s3, by simp; omega, by simp; omega, s2, s4⟩
      have OA : Hid (OwR wr base u8 acc) := WW.out.2.2.1
      have hbs : Hid (base ≤ wr.heap.size) := WW.out.2.2.2
      have EE : Hid (Ext w' wr) := WW.out.1
      have RR : Hid (Row wr B 3 (iv L ++ rest)) := WW.out.2.1
      have hlen : Hid ((acc.length + 1) * 8 ≤ 140737488355328) := by show _ ≤ _; omega
      clear hL hrl hal hIf hT s2 s3 s4 hp hr A WW DEL ORD
      obtain ⟨F2, hF2⟩ : ∃ F2, fc M = F2 := ⟨_, rfl⟩
      rw [hF2] at q1 q2 fp few c1
      clear hF2
      obtain ⟨y, hy⟩ : ∃ y, L.getD p 0 = y := ⟨_, rfl⟩
      rw [hy] at cL A2
      clear hy
      have hFz : ((F2 : Int) == 0) = false := by rw [beq_eq_false_iff_ne]; omega
      have hpz : (p : Int) < (M : Int) + 1 := by omega
      go_wp2_with fail
      refine c1.mono ?_
      rintro e w3 ⟨rfl, rfl⟩
      clear c1
      go_wp2_with (at_builtin; refine wpList_appendNumR rfl _ _ rfl base _ u8 (by rfl) acc OA.out hbs.out y (by rfl) hlen.out ?_; intro v4 w4 O4 R4 E4 z4
                   have OA4 : Hid (OwR w4 base v4 (acc ++ [y])) := O4; have RR4 : Hid (Row w4 B 3 (iv L ++ rest)) := R4 B 3 _ hB.out RR.out; have EE4 : Hid (Ext w' w4) := E4 w' EE.out (HB.out w' rfl); have hbs4 : Hid (base ≤ w4.heap.size) := z4; clear O4 R4 E4 z4)
      refine (DL.out w4 RR4.out).mono ?_
      rintro e w5 ⟨rfl, r5, k5⟩
      have W5 : Hid (Ext w' w5 ∧ Row w5 B 3 (iv (L.eraseIdx p) ++ .int .i64 0 :: rest) ∧ OwR w5 base v4 (acc ++ [y]) ∧ base ≤ w5.heap.size) :=
        ⟨k5.ext EE4.out (by rw [HBB.out]; exact Nat.le_refl _), r5, OA4.out.kb k5 hB.out, Nat.le_trans hbs4.out k5.size⟩
      clear r5 k5 DL OA RR EE hbs OA4 RR4 EE4 hbs4 cL
      go_wp2
      go_roundg M
      case measure => omega
      case rel => exact ⟨M, r, L.eraseIdx p, acc ++ [y], .int .i64 0 :: rest, by omega, by omega, hr4, rfl, rfl, A2.out, W5.out⟩
end Go.Proofs.Ytencpkmojjbjcab
