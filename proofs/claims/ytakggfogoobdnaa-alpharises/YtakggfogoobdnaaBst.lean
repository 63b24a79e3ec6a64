/-
  alpha.best: the first tree of those that cost least.
-/
import Derived.Test.YtakggfogoobdnaaJn2
namespace Go.Proofs.Ytakggfogoobdnaa
open Go.RowKit

theorem joinC_zero : JoinC 0 := fun _ _ _ _ _ _ _ h h' => by omega

theorem bt_orI (v l m : List Nat) : orI (cmpI (dot v l : Nat) (dot v m : Nat)) (cmpL l m) < 0 ↔ bt v l m = true := by
  rw [orI_neg]
  simp only [bt, Bool.or_eq_true, decide_eq_true_eq, Bool.and_eq_true, beq_iff_eq]

theorem madeN {w W : World} {n : Nat} (h : W = w.alloc (.cells (madeCells #[.int .i64 0] n) 3)) (hm : n ≤ maxLen) : OwnN w W (.slice (some ⟨w.heap.size, 0, none⟩) n n) (lz (List.replicate n 0)) := by
  subst h
  refine ⟨(Ext.refl w).alloc _, by simp [lz], .inr ⟨w.heap.size, n, _, by simp [lz], Nat.le_refl _, heap_alloc_new w _, by simp [lz], hm, ?_, ?_⟩⟩
  · have := toList_madeCells_one (.int .i64 0) n
    rw [← Array.length_toList, this]
    simp
  · rw [toList_madeCells_one]
    simp [lz]

set_option maxHeartbeats 4000000 in
theorem best_small (x : Nm) (v : List Nat) (w : World) (hx : Nums w x) (hxv : x.z = lz v) (h2 : v.length < 2) :
    Calls Try.prog 24 #[x.v] w fun e w' => ∃ (l : List Nat) (g c : Nat), e = .returned (.agg #[.int .i64 (dot v l : Nat), .slice (some ⟨g, 0, none⟩) v.length c]) ∧ OwnN w w' (.slice (some ⟨g, 0, none⟩) v.length c) (lz l) ∧ Opt v l := by
  obtain ⟨xa, xc, xz⟩ := x
  simp only [Nm.v] at *
  subst hxv
  rw [lz_length]
  have hopt : Hid (Opt v (List.replicate v.length 0) ∧ dot v (List.replicate v.length 0) = 0) := by
    match v, h2 with
    | [], _ => exact ⟨opt_nil, rfl⟩
    | [u], _ => exact ⟨opt_one u, by simp⟩
  obtain ⟨n, hn⟩ : ∃ n, v.length = n := ⟨_, rfl⟩
  rw [hn] at h2 hopt ⊢
  clear hx
  have hmk := run_make_row' (P := Try.prog) 27 3 (.int .i64 0) 8 Try.underlying27 info3 rfl .i64 .i64 n (by omega) (by omega)
  have hz : (n : Int) < 2 := by omega
  have st : Hid (∀ W0, OwnN W0 (W0.alloc (.cells (madeCells #[.int .i64 0] n) 3)) (.slice (some ⟨W0.heap.size, 0, none⟩) n n) (lz (List.replicate n 0))) := fun W0 => madeN rfl (by unfold maxLen; omega)
  go_enter Try.func24, Try.ntmps24
  go_wp2
  refine bodyPost_ret (by simp [results, Try.results24, go_sem]; rfl) rfl ?_
  refine ⟨List.replicate n 0, w.heap.size + 1, n, by rw [hopt.out.2]; rfl, ?_, hopt.out.1⟩
  have := st.out (w.alloc (.cells #[.int .i64 0, .slice (some ⟨w.heap.size + 1, 0, none⟩) n n] 47))
  simp only [World.size_alloc] at this
  exact this.base ((Ext.refl w).alloc _)

/-- The best plan so far. -/
structure Sofar (w1 wr : World) (L : Nat) (v : List Nat) (n i : Nat) (l : List Nat) (g c : Nat) : Prop where
  plan : Plan wr L ((dot v l : Nat) : Int) (.slice (some ⟨g, 0, none⟩) n c)
  own : OwnN w1 wr (.slice (some ⟨g, 0, none⟩) n c) (lz l)
  tree : TT n l
  best : ∀ k, 0 < k → k < i → ∃ a b, Opt (v.take k) a ∧ Opt (v.drop k) b ∧ Le v l (up1 (a ++ b))

set_option maxHeartbeats 4000000 in
theorem best_of {k : Nat} (hJ : JoinC k) : BestC k := by
  intro x v w hx hxv hk h8 hw
  by_cases h2 : v.length < 2
  · exact best_small x v w hx hxv h2
  obtain ⟨xa, xc, xz⟩ := x
  simp only [Nm.v] at *
  subst hxv
  have HJ : Hid (∀ W s, Ext w W → 0 < s → s < v.length → Calls Try.prog 35 #[.slice xa v.length xc, .int .i64 (s : Nat)] W fun e w' => ∃ (a b : List Nat) (g c : Nat), e = .returned (.agg #[.int .i64 (dot v (up1 (a ++ b)) : Nat), .slice (some ⟨g, 0, none⟩) v.length c]) ∧
    OwnN W w' (.slice (some ⟨g, 0, none⟩) v.length c) (lz (up1 (a ++ b))) ∧ Opt (v.take s) a ∧ Opt (v.drop s) b) := by
    intro W s e h0 h1
    have := hJ ⟨xa, xc, lz v⟩ v W s (hx.ext e) rfl h0 h1 hk h8 hw
    simp only [Nm.v, lz_length] at this
    exact this
  have HT : Hid (∀ s a b, 0 < s → s < v.length → Opt (v.take s) a → Opt (v.drop s) b → TT v.length (up1 (a ++ b))) := fun s a b h0 h1 ha hb => split_tt h0 h1 ha hb
  have HO : Hid (∀ l, TT v.length l → (∀ k, 0 < k → k < v.length → ∃ a b, Opt (v.take k) a ∧ Opt (v.drop k) b ∧ Le v l (up1 (a ++ b))) → Opt v l) := fun l h h' => opt_of_splits (by omega) h h'
  have HC : Hid (∀ (l m : List Nat) (g1 c1 g2 c2 : Nat) (W1 W2 W : World), OwnN W1 W (.slice (some ⟨g1, 0, none⟩) v.length c1) (lz l) → OwnN W2 W (.slice (some ⟨g2, 0, none⟩) v.length c2) (lz m) → l.length = v.length → m.length = v.length → Calls Try.prog 36 #[.agg #[.int .i64 (dot v l : Nat), .slice (some ⟨g1, 0, none⟩) v.length c1], .agg #[.int .i64 (dot v m : Nat), .slice (some ⟨g2, 0, none⟩) v.length c2]] W fun e w' => e = .returned (.int .i64 (orI (cmpI (dot v l : Nat) (dot v m : Nat)) (cmpL l m))) ∧ Ext W w') := by
    intro l m g1 c1 g2 c2 W1 W2 W ho1 ho2 hl hm
    obtain ⟨y1, hy1, hz1, hn1⟩ := ho1.nums
    obtain ⟨y2, hy2, hz2, hn2⟩ := ho2.nums
    rw [hy1, hy2]
    exact compareP_any _ _ y1 y2 l m W hn1 hn2 hz1 hz2 (by omega)
  rw [lz_length]
  clear hJ hx hw hk
  obtain ⟨n, hn⟩ : ∃ n, v.length = n := ⟨_, rfl⟩
  rw [hn] at h8 h2 HJ HT HO HC ⊢
  clear hn
  have hz : ¬ (n : Int) < 2 := by omega
  go_enter Try.func24, Try.ntmps24
  go_wp2_with fail
  obtain ⟨w1, hw1⟩ : ∃ w1, w1 = w.alloc (.cells #[.int .i64 0, .slice none 0 0] 47) := ⟨_, rfl⟩
  have E1 : Hid (Ext w w1) := by rw [hw1]; exact (Ext.refl w).alloc _
  have R1 : Hid (Plan w1 w.heap.size 0 (.slice none 0 0)) := by rw [hw1]; exact Plan.new w
  rw [← hw1]
  clear hw1
  refine (HJ.out w1 1 E1.out (by omega) (by omega)).mono ?_
  rintro e w2 ⟨a, b, g, c, rfl, hown, ha, hb⟩
  have S2 : Hid (Sofar w1 (w2.alloc (.cells #[.int .i64 (dot v (up1 (a ++ b)) : Nat), .slice (some ⟨g, 0, none⟩) n c] 47)) w2.heap.size v n 2 (up1 (a ++ b)) g c) := by
    refine ⟨heap_alloc_new w2 _, hown.ext ((Ext.refl w2).alloc _), HT.out 1 a b (by omega) (by omega) ha hb, fun k h0 h1 => ?_⟩
    obtain rfl : k = 1 := by omega
    exact ⟨a, b, ha, hb, Le.refl _ _⟩
  have hL : w1.heap.size ≤ w2.heap.size := hown.1.size
  clear hown ha hb
  go_wp2
  generalize (w2.alloc (.cells #[.int .i64 (dot v (up1 (a ++ b)) : Nat), .slice (some ⟨g, 0, none⟩) n c] 47)) = w3 at *
  generalize w2.heap.size = L at *
  have S0 : Hid (∃ l g c, Sofar w1 w3 L v n 2 l g c) := ⟨_, _, _, S2.out⟩
  clear S2
  go_loopg [4, 5] n (fun gg s4 _ wr => ∃ i : Nat, 2 ≤ i ∧ i ≤ n ∧ n - i ≤ gg ∧ s4 = .int .i64 i ∧ Aside (∃ l g c, Sofar w1 wr L v n i l g c))
  case atStart => exact ⟨2, by omega, by omega, by omega, rfl, S0.out⟩
  case round =>
    obtain ⟨i, hi2, hin, hgg, rfl, A⟩ := hrel
    obtain ⟨l, g', c', hS⟩ := A.out
    have HS : Hid (Sofar w1 wr L v n i l g' c') := hS
    clear A S0
    by_cases hlt : i < n
    · have hltz : (i : Int) < (n : Int) := by omega
      have hj := HJ.out wr i (E1.out.trans hS.own.1) (by omega) hlt
      clear hS
      go_wp2_with fail
      refine hj.mono ?_
      rintro e w4 ⟨a', b', g4, c4, rfl, hown, ha, hb⟩
      obtain ⟨m, hm⟩ : ∃ m, up1 (a' ++ b') = m := ⟨_, rfl⟩
      have htm := HT.out i a' b' (by omega) hlt ha hb
      rw [hm] at htm hown ⊢
      have HAB : Hid (∃ a b, Opt (v.take i) a ∧ Opt (v.drop i) b ∧ up1 (a ++ b) = m) := ⟨a', b', ha, hb, hm⟩
      have hS4 : Sofar w1 w4 L v n i l g' c' := ⟨HS.out.plan.ext hown.1, HS.out.own.ext hown.1, HS.out.tree, HS.out.best⟩
      have hown' : OwnN w1 w4 (.slice (some ⟨g4, 0, none⟩) n c4) (lz m) := hown.base HS.out.own.1
      have HTM : Hid (TT n m) := htm
      clear hj hown ha hb hm htm HS
      obtain ⟨w5, hw5⟩ : ∃ w5, w5 = w4.alloc (.cells #[.int .i64 (dot v m : Nat), .slice (some ⟨g4, 0, none⟩) n c4] 47) := ⟨_, rfl⟩
      have E5 : Ext w4 w5 := by rw [hw5]; exact (Ext.refl w4).alloc _
      have P5 : Plan w5 w4.heap.size ((dot v m : Nat) : Int) (.slice (some ⟨g4, 0, none⟩) n c4) := by rw [hw5]; exact heap_alloc_new w4 _
      have hS5 : Sofar w1 w5 L v n i l g' c' := ⟨hS4.plan.ext E5, hS4.own.ext E5, hS4.tree, hS4.best⟩
      have hcmp := HC.out m l g4 c4 g' c' w1 w1 w5 (hown'.ext E5) hS5.own HTM.out.1 hS5.tree.1
      have q0 := hS5.plan.c0
      have q1 := hS5.plan.c1
      have HS5 : Hid (Sofar w1 w5 L v n i l g' c') := hS5
      have HP5 : Hid (Plan w5 w4.heap.size ((dot v m : Nat) : Int) (.slice (some ⟨g4, 0, none⟩) n c4) ∧ OwnN w1 w5 (.slice (some ⟨g4, 0, none⟩) n c4) (lz m)) := ⟨P5, hown'.ext E5⟩
      have hbt := bt_orI v m l
      clear hS4 hown' E5 P5 hS5
      generalize orI (cmpI (dot v m : Nat) (dot v l : Nat)) (cmpL m l) = r at hcmp hbt
      rw [hw5] at q0 q1 hcmp
      go_wp2_with fail
      rw [← hw5] at hcmp ⊢
      clear hw5 q0 q1
      refine hcmp.mono ?_
      rintro e w6 ⟨rfl, hE6⟩
      have S6 : Hid (Sofar w1 w6 L v n i l g' c') := ⟨HS5.out.plan.ext hE6, HS5.out.own.ext hE6, HS5.out.tree, HS5.out.best⟩
      have P6 := HP5.out.1.ext hE6
      have O6 : Hid (OwnN w1 w6 (.slice (some ⟨g4, 0, none⟩) n c4) (lz m)) := HP5.out.2.ext hE6
      clear HS5 HP5 hcmp hE6
      cases hb : bt v m l with
      | true =>
        have hr : r < 0 := hbt.2 hb
        have p0 := P6.c0
        have p1 := P6.c1
        have l0 := S6.out.plan.c0
        have l1 := S6.out.plan.c1
        have lf := S6.out.plan.fr
        have NX : Hid (∃ l g c, Sofar w1 ((w6.setCell ⟨L, 0, none⟩ (.int .i64 (dot v m : Nat))).setCell ⟨L, 1, none⟩ (.slice (some ⟨g4, 0, none⟩) n c4)) L v n (i + 1) l g c) := by
          refine ⟨m, g4, c4, S6.out.plan.put _ _, ownN_plan (ownN_plan O6.out S6.out.plan hL) (S6.out.plan.put0 _) hL, HTM.out, fun k h0 h1 => ?_⟩
          by_cases hki : k = i
          · subst hki
            obtain ⟨a, b, h1, h2, h3⟩ := HAB.out
            exact ⟨a, b, h1, h2, by rw [h3]; exact Le.refl _ _⟩
          · obtain ⟨a, b, h1, h2, h3⟩ := S6.out.best k h0 (by omega)
            exact ⟨a, b, h1, h2, (le_of_bt hb).trans h3⟩
        clear hbt hb S6 P6 O6 HAB HTM
        generalize w4.heap.size = B5 at *
        generalize dot v m = dm at *
        generalize dot v l = dl at *
        go_wp2
        go_roundg (n - (i + 1))
        case measure => omega
        case rel => exact ⟨i + 1, by omega, by omega, by omega, by go_num, NX.out⟩
      | false =>
        have hr : ¬ r < 0 := fun h => by rw [hbt.1 h] at hb; cases hb
        have NX : Hid (∃ l g c, Sofar w1 w6 L v n (i + 1) l g c) := by
          refine ⟨l, g', c', S6.out.plan, S6.out.own, S6.out.tree, fun k h0 h1 => ?_⟩
          by_cases hki : k = i
          · subst hki
            obtain ⟨a, b, h1, h2, h3⟩ := HAB.out
            exact ⟨a, b, h1, h2, by rw [h3]; exact le_of_nbt hb⟩
          · exact S6.out.best k h0 (by omega)
        clear hbt hb S6 P6 O6 HAB HTM
        generalize w4.heap.size = B5 at *
        generalize dot v m = dm at *
        generalize dot v l = dl at *
        go_wp2
        go_roundg (n - (i + 1))
        case measure => omega
        case rel => exact ⟨i + 1, by omega, by omega, by omega, by go_num, NX.out⟩
    · have hi : i = n := by omega
      have hopt : Hid (Opt v l) := HO.out l hS.tree (fun k h0 h1 => hS.best k h0 (by omega))
      have k0 := hS.plan.c0
      have k1 := hS.plan.c1
      have rp := R1.out.ext hS.own.1
      have r0 := rp.c0
      have r1 := rp.c1
      have rf := rp.fr
      have rl : w.heap.size < w1.heap.size := Row.lt R1.out
      have hne2 : w.heap.size ≠ L := by omega
      have rp2 := rp.put ((dot v l : Nat) : Int) (.slice (some ⟨g', 0, none⟩) n c')
      have z0 := rp2.c0
      have z1 := rp2.c1
      have FIN : Hid (OwnN w ((wr.setCell ⟨w.heap.size, 0, none⟩ (.int .i64 ((dot v l : Nat) : Int))).setCell ⟨w.heap.size, 1, none⟩ (.slice (some ⟨g', 0, none⟩) n c')) (.slice (some ⟨g', 0, none⟩) n c') (lz l)) :=
        ownN_plan (ownN_plan (hS.own.base E1.out) rp (Nat.le_refl _)) (rp.put0 _) (Nat.le_refl _)
      have hltz : ¬ (i : Int) < (n : Int) := by omega
      clear hS rp rp2 HS HJ HT HO HC
      obtain ⟨dl, hdl⟩ : ∃ dl, dot v l = dl := ⟨_, rfl⟩
      have HDL : Hid (dot v l = dl) := hdl
      rw [hdl] at k0 z0 z1 FIN
      clear hdl
      go_wp2
      refine bodyPost_ret (by simp [results, Try.results24, go_sem, z0, z1]; rfl) rfl ?_
      exact ⟨l, g', c', by rw [HDL.out], FIN.out, hopt.out⟩

/-- alpha.best, of whatever weights that may be. -/
theorem best_all : ∀ k, BestC k
  | 0 => best_of joinC_zero
  | k + 1 => best_of (join_of (best_all k))

end Go.Proofs.Ytakggfogoobdnaa
