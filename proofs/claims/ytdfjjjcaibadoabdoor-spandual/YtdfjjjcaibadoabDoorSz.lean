/-
  slices.pdqsortOrdered, slices.Sort of words.
-/
import Derived.Test.YtdfjjjcaibadoabDoorSp
import Derived.Test.YtdfjjjcaibadoabDoorSe
import Derived.Test.YtdfjjjcaibadoabDoorSq
import Derived.Test.YtdfjjjcaibadoabDoorSh
import Derived.Test.YtdfjjjcaibadoabDoorSv
import Derived.Test.YtdfjjjcaibadoabDoorSr
namespace Go.Proofs.YtdfjjjcaibadoabDoor
open Go.RowKit Go.Sort

/-- What is known of the list s at a round on [i, j), the call being on [a, b) of d. -/
structure PS (a b : Nat) (d : Array Nat) (n i j : Nat) (s : Array Nat) : Prop where
  size : s.size = n
  below : Go.Sort.Below lt i j s
  cont : ∀ R, PermIn i j s R → SortedIn lt i j R → PermIn a b d R ∧ SortedIn lt a b R

theorem PS.perm {a b : Nat} {d : Array Nat} {n i j : Nat} {s s2 : Array Nat} (h : PS a b d n i j s) (hj : j ≤ n) (p : PermIn i j s s2) : PS a b d n i j s2 :=
  ⟨p.1.trans h.size, h.below.perm (by rw [h.size]; exact hj) p, fun R hR hs => h.cont R (permIn_trans _ _ _ _ _ p hR) hs⟩

def Bv (x : Nat) : Bool := x != 0
theorem bv_of (t : Bool) : ∃ x, t = Bv x := by
  cases t
  · exact ⟨0, rfl⟩
  · exact ⟨1, rfl⟩

/-- The contract of pdqsortOrdered on parts of up to k words. -/
def PdqC (k : Nat) : Prop := ∀ (B c n a b lim : Nat) (d : Array Nat) (r : List Value) (w : World), UA w B d r → d.size = n → n ≤ 1000 → a ≤ b → b ≤ n → b - a ≤ k → lim ≤ 64 → Go.Sort.Below lt a b d →
  Calls Tryd.prog 32 #[.slice (some ⟨B, 0, none⟩) n c, .int .i64 a, .int .i64 b, .int .i64 lim] w
    fun e w' => e = .returned (.tuple #[]) ∧ Hid (∃ s, PermIn a b d s ∧ SortedIn lt a b s ∧ UA w' B s r) ∧ Hid (KB B w w')

set_option maxRecDepth 100000 in
set_option maxHeartbeats 16000000 in
theorem pdq_of (k : Nat) (IH0 : ∀ m, m < k → PdqC m) : PdqC k := by
  intro B c n a b lim d r w hr hn hn2 hab hb hk hlim hbel
  have IH : Hid (∀ m, m < k → PdqC m) := IH0
  have U0 : Hid (UA w B d r) := hr
  have P0 : Hid (PS a b d n a b d) := ⟨hn, hbel, fun R h1 h2 => ⟨h1, h2⟩⟩
  obtain ⟨x1, hx1⟩ := bv_of true
  clear hr hn hbel IH0
  go_enter Tryd.func32, Tryd.ntmps32
  go_wp2
  go_loopg [1, 2, 3, 8, 9] n (fun gg s1 s2 s3 s8 s9 wr => ∃ (i j lim xb xp : Nat) (s : Array Nat), a ≤ i ∧ i ≤ j ∧ j ≤ b ∧ lim ≤ 64 ∧ j - i ≤ gg ∧ s1 = .int .i64 i ∧ s2 = .int .i64 j ∧ s3 = .int .i64 lim ∧ s8 = .bool (Bv xb) ∧ s9 = .bool (Bv xp) ∧ Aside (KB B w wr) ∧ Aside (UA wr B s r) ∧ Aside (PS a b d n i j s))
  case atStart => exact ⟨a, b, lim, x1, x1, d, Nat.le_refl _, hab, Nat.le_refl _, hlim, by omega, rfl, rfl, rfl, by rw [← hx1], by rw [← hx1], KB.refl _ _, U0.out, P0.out⟩
  case round =>
    clear U0 P0 hlim hx1
    obtain ⟨i, j, lim, xb, xp, s, hai, hij, hjb, hlim, hg, rfl, rfl, rfl, rfl, rfl, KW, UW, PX⟩ := hrel
    generalize Bv xb = wb
    generalize Bv xp = wp
    obtain ⟨L, hL⟩ : ∃ L, j - i = L := ⟨_, rfl⟩
    have Lz : (j : Int) - (i : Int) = (L : Int) := by omega
    have L1 : L ≤ 1000 := by omega
    by_cases h12 : L ≤ 12
    · have h12z : (L : Int) ≤ 12 := by omega
      have C := insort_any B c n i j s r wr UW.out PX.out.size hn2 hij (by omega)
      have Q := insertionSort_holds swo_lt s i j hij (by rw [PX.out.size]; omega)
      have Q2 : Hid (PermIn a b d (insertionSort lt s i j) ∧ SortedIn lt a b (insertionSort lt s i j)) := PX.out.cont _ Q.1 Q.2
      clear Q UW PX IH
      generalize insertionSort lt s i j = T at *
      go_wp2_with (go_at_call 34; refine C.mono ?_; rintro e w1 ⟨rfl, u1, k1⟩)
      refine bodyPost_ret (results_none rfl _ _ _) rfl ?_
      exact ⟨rfl, ⟨T, Q2.out.1, Q2.out.2, u1.out⟩, KW.out.trans k1.out⟩
    · have h12z : ¬ (L : Int) ≤ 12 := by omega
      by_cases hl0 : lim = 0
      · have hl0z : ((lim : Int) == 0) = true := by rw [beq_iff_eq]; omega
        have C := heap_any B c n i j s r wr UW.out PX.out.size hn2 (by omega) (by omega)
        have Q := heapSort_holds swo_lt s i j hij (by rw [PX.out.size]; omega)
        have Q2 : Hid (PermIn a b d (heapSort lt s i j) ∧ SortedIn lt a b (heapSort lt s i j)) := PX.out.cont _ Q.1 Q.2
        clear Q UW PX IH
        generalize heapSort lt s i j = T at *
        go_wp2_with (go_at_call 35; refine C.mono ?_; rintro e w1 ⟨rfl, u1, k1⟩)
        refine bodyPost_ret (results_none rfl _ _ _) rfl ?_
        exact ⟨rfl, ⟨T, Q2.out.1, Q2.out.2, u1.out⟩, KW.out.trans k1.out⟩
      · have hl0z : ((lim : Int) == 0) = false := by rw [beq_eq_false_iff_ne]; omega
        have BC := break_any B c n i j s r wr UW.out PX.out.size hn2 (by omega) (by omega)
        go_upto_if 35 with fail
        go_cut [3] (fun s3 wx => ∃ lim2 : Nat, lim2 ≤ 64 ∧ s3 = .int .i64 lim2 ∧ Aside (KB B w wx) ∧ Aside (∃ s2, PS a b d n i j s2 ∧ UA wx B s2 r))
        case first =>
          obtain ⟨lm, rfl⟩ : ∃ lm, lim = lm + 1 := ⟨lim - 1, by omega⟩
          cases wb
          · go_wp2_with (go_at_call 36; refine BC.mono ?_; rintro e w1 ⟨rfl, u1, k1⟩)
            go_meet
            case rel => exact ⟨lm, by omega, by go_num, KW.out.trans k1.out, by
              obtain ⟨s2, p2, u2⟩ := u1.out
              exact ⟨s2, PX.out.perm (by omega) p2, u2⟩⟩
          · go_wp2
            go_meet
            case rel => exact ⟨lm + 1, by omega, by go_num, KW.out, s, PX.out, UW.out⟩
        case rest =>
          obtain ⟨lim2, hl2, rfl, KA, A⟩ := hcut
          clear BC KW UW PX hl0z hl0 hlim
          obtain ⟨s2, P2', U2'⟩ := A.out
          have P2 : Hid (PS a b d n i j s2) := P2'
          have C := pivot_any B c n i j s2 r wc U2' P2'.size hn2 (by omega) (by omega)
          have U2 : Hid (UA wc B s2 r) := U2'
          clear A P2' U2'
          go_upto_if 50 with (go_at_call 37; refine C.mono ?_; rintro e w2 ⟨p, h, rfl, hp, E2⟩)
          have U3 : Hid (UA w2 B s2 r) := U2.out.ext E2.out
          have K3 : Hid (KB B w w2) := KA.out.trans (KB.of_ext E2.out)
          clear C U2 KA E2
          have RV := reverse_any B c n i j s2 r w2 U3.out P2.out.size hn2 (by omega) (by omega)
          go_cut [11, 12] (fun s11 s12 wx => ∃ p2 h2 : Nat, i ≤ p2 ∧ p2 < j ∧ s11 = .int .i64 p2 ∧ s12 = .int .i64 h2 ∧ Aside (KB B w wx) ∧ Aside (∃ s3, PS a b d n i j s3 ∧ UA wx B s3 r))
          case first =>
            by_cases hh : h = 2
            · subst hh
              obtain ⟨j1, hj1⟩ : ∃ j1, j - 1 = j1 := ⟨_, rfl⟩
              obtain ⟨q, hq⟩ : ∃ q, p - i = q := ⟨_, rfl⟩
              obtain ⟨p2, hp2⟩ : ∃ p2, j1 - q = p2 := ⟨_, rfl⟩
              have hpp := hp.out
              have z1 : (j : Int) - 1 = (j1 : Int) := by omega
              have z2 : (p : Int) - (i : Int) = (q : Int) := by omega
              have z3 : (j1 : Int) - (q : Int) = (p2 : Int) := by omega
              have z4 : Hid (i ≤ p2 ∧ p2 < j) := ⟨by omega, by omega⟩
              clear hj1 hq hp2
              go_wp2_with (go_at_call 38; refine RV.mono ?_; rintro e w3 ⟨rfl, u1, k1⟩)
              go_meet
              case rel => exact ⟨p2, 1, z4.out.1, z4.out.2, by go_num, rfl, K3.out.trans k1.out, by
                obtain ⟨s3, p3, u3⟩ := u1.out
                exact ⟨s3, P2.out.perm (by omega) p3, u3⟩⟩
            · have hhz : ((h : Int) == 2) = false := by rw [beq_eq_false_iff_ne]; omega
              clear RV
              go_wp2
              go_meet
              case rel => exact ⟨p, h, hp.out.1, hp.out.2, rfl, rfl, K3.out, s2, P2.out, U3.out⟩
          case rest =>
            clear RV K3 U3 P2 hp
            obtain ⟨p2, h2, hp1, hp2, rfl, rfl, KA, A⟩ := hcut
            obtain ⟨s3, P3', U3'⟩ := A.out
            have P3 : Hid (PS a b d n i j s3) := P3'
            have U3 : Hid (UA wc B s3 r) := U3'
            clear A P3' U3' s2
            go_upto_region 15 with fail
            go_cut [68] (fun s68 wx => wx = wc ∧ s68 = .bool (wb && wp && decide (h2 = 1)))
            case first =>
              by_cases hh : h2 = 1
              · subst hh
                cases wb <;> cases wp
                all_goals
                  go_wp2
                  go_meet
                  case rel => exact ⟨rfl, rfl⟩
              · have hhz : ((h2 : Int) == 1) = false := by rw [beq_eq_false_iff_ne]; omega
                cases wb <;> cases wp
                all_goals
                  go_wp2
                  go_meet
                  case rel => exact ⟨rfl, congrArg Value.bool (by simp [hh])⟩
            case rest =>
              obtain ⟨rfl, rfl⟩ := hcut
              generalize (wb && wp && decide (h2 = 1)) = t
              have PI := partial_any B c n i j s3 r wc U3.out P3.out.size hn2 (by omega) (by omega)
              have Q := partialInsertionSort_holds swo_lt s3 i j (by omega) (by rw [P3.out.size]; omega) P3.out.below
              have Q1 : Hid (PS a b d n i j (partialInsertionSort lt s3 i j).1) := P3.out.perm (by omega) Q.1
              have Q2 : Hid ((partialInsertionSort lt s3 i j).2 = true → PermIn a b d (partialInsertionSort lt s3 i j).1 ∧ SortedIn lt a b (partialInsertionSort lt s3 i j).1) := fun h => P3.out.cont _ Q.1 (Q.2 h)
              clear Q
              generalize (partialInsertionSort lt s3 i j).1 = T at *
              generalize (partialInsertionSort lt s3 i j).2 = tt at *
              go_upto_if 68 with fail
              go_cut [] (fun wx => Aside (KB B w wx) ∧ Aside (∃ s4, PS a b d n i j s4 ∧ UA wx B s4 r))
              case first =>
                cases t
                · clear PI Q1 Q2
                  go_wp2
                  go_meet
                  case rel => exact ⟨KA.out, s3, P3.out, U3.out⟩
                · cases tt
                  · go_wp2_with (go_at_call 39; refine PI.mono ?_; rintro e w3 ⟨rfl, u1, z1, k1⟩)
                    go_meet
                    case rel => exact ⟨KA.out.trans k1.out, T, Q1.out, u1.out⟩
                  · have Q3 : Hid (PermIn a b d T ∧ SortedIn lt a b T) := Q2.out rfl
                    clear Q2
                    go_wp2_with (go_at_call 39; refine PI.mono ?_; rintro e w3 ⟨rfl, u1, z1, k1⟩)
                    refine bodyPost_ret (results_none rfl _ _ _) rfl ?_
                    exact ⟨rfl, ⟨T, Q3.out.1, Q3.out.2, u1.out⟩, KA.out.trans k1.out⟩
              case rest =>
                clear PI Q1 Q2 P3 U3 KA
                obtain ⟨KA, A⟩ := hcut
                obtain ⟨s4, P4', U4'⟩ := A.out
                have P4 : Hid (PS a b d n i j s4) := P4'
                have U4 : Hid (UA wc B s4 r) := U4'
                clear A P4' U4'
                go_upto_region 17 with fail
                go_cut [87] (fun s87 wx => s87 = .bool (decide (0 < i ∧ lt s4[i - 1]! s4[p2]! = false)) ∧ Aside (KB B w wx) ∧ Aside (UA wx B s4 r))
                case first =>
                  by_cases hi0 : 0 < i
                  · have hi0z : (i : Int) > 0 := by omega
                    obtain ⟨q, hq⟩ : ∃ q, i - 1 = q := ⟨_, rfl⟩
                    have qz : (i : Int) - 1 = (q : Int) := by omega
                    have e1 := U4.out.cell (i := i - 1) (by rw [P4.out.size]; omega)
                    have e2 := U4.out.cell (i := p2) (by rw [P4.out.size]; omega)
                    have hc : Hid (∀ m9, Calls Tryd.prog 40 #[.int .u32 (s4[i - 1]! : Nat), .int .u32 (s4[p2]! : Nat)] (wc.drewN m9) fun e w' => e = .returned (.bool (lt s4[i - 1]! s4[p2]!)) ∧ ∃ m, w' = (wc.drewN m9).drewN m) := fun _ => less_any _ _ _
                    obtain ⟨x, hx⟩ : ∃ x, s4[i - 1]! = x := ⟨_, rfl⟩
                    obtain ⟨y, hy⟩ : ∃ y, s4[p2]! = y := ⟨_, rfl⟩
                    rw [hx] at e1 hc
                    rw [hy] at e2 hc
                    have XX : Hid (s4[i - 1]! = x ∧ s4[p2]! = y) := ⟨hx, hy⟩
                    have b1 : (q : Int) < (n : Int) := by omega
                    have b2 : (p2 : Int) < (n : Int) := by omega
                    rw [hq] at e1
                    clear hx hy hq
                    cases hl : lt x y
                    all_goals
                      rw [hl] at hc
                      have HL : Hid (lt x y = _) := hl
                      clear hl
                      go_wp2
                      go_quiet ((go_at_call 40; exact Calls.quiet_of (hc.out _)))
                      go_wp2
                      go_meet
                      case rel => exact ⟨congrArg Value.bool (by rw [XX.out.1, XX.out.2, HL.out]; simp [hi0]), KA.out.trans (KB.of_ext (Qt.ext ⟨_, rfl⟩)), U4.out.ext (Qt.ext ⟨_, rfl⟩)⟩
                  · have hi0z : ¬ (i : Int) > 0 := by omega
                    go_wp2
                    go_quiet (fail)
                    go_wp2
                    go_meet
                    case rel => exact ⟨congrArg Value.bool (by simp [hi0]), KA.out.trans (KB.of_ext (Qt.ext ⟨_, rfl⟩)), U4.out.ext (Qt.ext ⟨_, rfl⟩)⟩
                case rest =>
                  clear KA U4
                  obtain ⟨rfl, KA, U4⟩ := hcut
                  by_cases hgd : 0 < i ∧ lt s4[i - 1]! s4[p2]! = false
                  · have hd := decide_eq_true hgd
                    have C := parteq_any B c n i j p2 s4 r wc U4.out P4.out.size hn2 hp1 hp2 (by omega)
                    have RE : Hid (∀ m s5, partitionEqual lt s4 i j p2 = (m, s5) → i < m ∧ m ≤ j ∧ PS a b d n m j s5) := fun m s5 hx => by
                      obtain ⟨r1, r2, r3, r4, r5⟩ := round_eq swo_lt (partitionEqual_holds lt) hgd.1 hp1 hp2 (by rw [P4.out.size]; omega) P4.out.below hgd.2 hx
                      exact ⟨r1, r2, r3.trans P4.out.size, r4, fun R h1 h2 => by
                        obtain ⟨g1, g2⟩ := r5 R h1 h2
                        exact P4.out.cont R g1 g2⟩
                    rw [hd]
                    clear hd hgd P4 U4
                    go_wp2_with (go_at_call 41; refine C.mono ?_; rintro e w3 ⟨m, s5, rfl, E5, u5, z5, k5⟩)
                    obtain ⟨m1, m2, P5⟩ := RE.out m s5 E5.out
                    obtain ⟨xb, rfl⟩ := bv_of wb
                    obtain ⟨xp, rfl⟩ := bv_of wp
                    go_roundg (j - m)
                    case measure => omega
                    case rel => exact ⟨m, j, lim2, xb, xp, s5, by omega, m2, hjb, hl2, Nat.le_refl _, rfl, rfl, rfl, rfl, rfl, KA.out.trans k5.out, u5.out, P5⟩
                  · have hd := decide_eq_false hgd
                    have C := part_any B c n i j p2 s4 r wc U4.out P4.out.size hn2 hp1 hp2 (by omega)
                    have RP : Hid (∀ m t s5, partition lt s4 i j p2 = (m, t, s5) → i ≤ m ∧ m < j ∧ Go.Sort.Below lt i m s5 ∧ Go.Sort.Below lt (m + 1) j s5 ∧
                        (∀ T, PermIn i m s5 T → SortedIn lt i m T → PS a b d n (m + 1) j T) ∧ (∀ T, PermIn (m + 1) j s5 T → SortedIn lt (m + 1) j T → PS a b d n i m T)) := fun m t s5 hx => by
                      obtain ⟨r1, r2, r3, r4, r5, r6, r7⟩ := round_part swo_lt (partition_holds lt) hp1 hp2 (by rw [P4.out.size]; omega) P4.out.below hx
                      have sz : s5.size = n := r3.trans P4.out.size
                      refine ⟨r1, r2, r4, r5, fun T h1 h2 => ?_, fun T h1 h2 => ?_⟩
                      · obtain ⟨g1, g2⟩ := r6 T h1 h2
                        exact ⟨h1.1.trans sz, g1, fun R h3 h4 => by
                          obtain ⟨g3, g4⟩ := g2 R h3 h4
                          exact P4.out.cont R g3 g4⟩
                      · obtain ⟨g1, g2⟩ := r7 T h1 h2
                        exact ⟨h1.1.trans sz, g1, fun R h3 h4 => by
                          obtain ⟨g3, g4⟩ := g2 R h3 h4
                          exact P4.out.cont R g3 g4⟩
                    rw [hd]
                    clear hd hgd P4 U4
                    go_upto_region 21 with (go_at_call 42; refine C.mono ?_; rintro e w3 ⟨m, tq, s5, rfl, E5, u5, z5, k5⟩)
                    obtain ⟨m1, m2, B1, B2, L1, L2⟩ := RP.out m tq s5 E5.out
                    have HB1 : Hid (Go.Sort.Below lt i m s5) := B1
                    have HB2 : Hid (Go.Sort.Below lt (m + 1) j s5) := B2
                    have HL1 : Hid (∀ T, PermIn i m s5 T → SortedIn lt i m T → PS a b d n (m + 1) j T) := L1
                    have HL2 : Hid (∀ T, PermIn (m + 1) j s5 T → SortedIn lt (m + 1) j T → PS a b d n i m T) := L2
                    have K5 : Hid (KB B w w3) := KA.out.trans k5.out
                    obtain ⟨A, hA⟩ : ∃ A, m - i = A := ⟨_, rfl⟩
                    obtain ⟨D, hD⟩ : ∃ D, j - m = D := ⟨_, rfl⟩
                    obtain ⟨T8, hT8⟩ : ∃ T8, L / 8 = T8 := ⟨_, rfl⟩
                    have Az : (m : Int) - (i : Int) = (A : Int) := by omega
                    have Dz : (j : Int) - (m : Int) = (D : Int) := by omega
                    have T8z : (L : Int).tdiv 8 = (T8 : Int) := by
                      rw [show (8 : Int) = ((8 : Nat) : Int) from rfl, ← Int.ofNat_tdiv, hT8]
                    have T81 : T8 ≤ 1000 := by omega
                    obtain ⟨xp, rfl⟩ := bv_of tq
                    clear B1 B2 L1 L2 C RP E5 KA k5 hT8
                    by_cases hAD : A < D
                    · have hADz : (A : Int) < (D : Int) := by omega
                      have C1 := IH.out (m - i) (by omega) B c n i m lim2 s5 r w3 u5.out z5.out hn2 m1 (by omega) (Nat.le_refl _) hl2 HB1.out
                      clear IH u5
                      go_wp2_with (go_at_call 32; refine C1.mono ?_; rintro e w4 ⟨rfl, v1, k6⟩)
                      obtain ⟨s6, q1, q2, q3⟩ := v1.out
                      obtain ⟨xb, hxb⟩ := bv_of (decide (T8 ≤ A))
                      have P6 := HL1.out s6 q1 q2
                      go_roundg (j - (m + 1))
                      case measure => omega
                      case rel => exact ⟨m + 1, j, lim2, xb, xp, s6, by omega, by omega, hjb, hl2, Nat.le_refl _, by go_num, rfl, rfl, by rw [← hxb], rfl, K5.out.trans k6.out, q3, P6⟩
                    · have hADz : ¬ (A : Int) < (D : Int) := by omega
                      have C1 := IH.out (j - (m + 1)) (by omega) B c n (m + 1) j lim2 s5 r w3 u5.out z5.out hn2 (by omega) (by omega) (Nat.le_refl _) hl2 HB2.out
                      have e1 : ((m + 1 : Nat) : Int) = (m : Int) + 1 := by omega
                      rw [e1] at C1
                      clear IH u5 e1
                      go_wp2_with (go_at_call 32; refine C1.mono ?_; rintro e w4 ⟨rfl, v1, k6⟩)
                      obtain ⟨s6, q1, q2, q3⟩ := v1.out
                      obtain ⟨xb, hxb⟩ := bv_of (decide (T8 ≤ D))
                      have P6 := HL2.out s6 q1 q2
                      go_roundg (m - i)
                      case measure => omega
                      case rel => exact ⟨i, m, lim2, xb, xp, s6, hai, m1, by omega, hl2, Nat.le_refl _, rfl, rfl, rfl, by rw [← hxb], rfl, K5.out.trans k6.out, q3, P6⟩

theorem pdq_all (k : Nat) : PdqC k := Nat.strongRecOn k fun k ih => pdq_of k ih

/-- slices.Sort of words: they rise, and are the same. -/
theorem sort_any (B c n : Nat) (z : List Nat) (r : List Value) (w : World) (hr : Row w B 23 (uv z ++ r)) (hn : z.length = n) (hn2 : n ≤ 1000) :
    Calls Tryd.prog 24 #[.slice (some ⟨B, 0, none⟩) n c] w
      fun e w' => e = .returned (.tuple #[]) ∧ Hid (∃ z' : List Nat, z'.Perm z ∧ z'.Pairwise (· ≤ ·) ∧ Row w' B 23 (uv z' ++ r)) ∧ Hid (KB B w w') := by
  have hU : UA w B z.toArray r := hr
  have LN := len_any n (by omega)
  have h10 : nd n ≤ 10 := nd_below (by omega)
  have C : ∀ W, UA W B z.toArray r → Calls Tryd.prog 32 #[.slice (some ⟨B, 0, none⟩) n c, .int .i64 0, .int .i64 n, .int .i64 (nd n : Nat)] W
    fun e w' => e = .returned (.tuple #[]) ∧ Hid (∃ s, PermIn 0 n z.toArray s ∧ SortedIn lt 0 n s ∧ UA w' B s r) ∧ Hid (KB B W w') := fun W hW =>
      pdq_all n B c n 0 n (nd n) z.toArray r W hW (by simpa using hn) hn2 (Nat.zero_le _) (Nat.le_refl _) (by omega) (by omega) (Or.inl rfl)
  have C1 := C w hU
  have F : Hid (∀ W, (∃ s, PermIn 0 n z.toArray s ∧ SortedIn lt 0 n s ∧ UA W B s r) → ∃ z' : List Nat, z'.Perm z ∧ z'.Pairwise (· ≤ ·) ∧ Row W B 23 (uv z' ++ r)) := by
    rintro W ⟨s, ⟨p1, p2, p3⟩, q, u⟩
    have hs : s.size = n := by simpa using p1.trans (by simpa using hn)
    refine ⟨s.toList, ?_, ?_, u⟩
    · have e1 : s.extract 0 n = s := by rw [← hs]; exact Array.extract_size
      have e2 : z.toArray.extract 0 n = z.toArray := by rw [← hn]; simp
      rw [e1, e2] at p3
      simpa using p3
    · rw [List.pairwise_iff_getElem]
      intro i j hi hj hij
      have hi' : i < s.size := by simpa using hi
      have hj' : j < s.size := by simpa using hj
      have := q i j (Nat.zero_le _) hij (by omega)
      rw [get_in hi', get_in hj'] at this
      unfold lt at this
      simp at this
      simpa using this
  clear C hU hr hn
  generalize nd n = m at *
  go_enter Tryd.func24, Tryd.ntmps24
  go_wp2_with fail
  refine (LN w).mono ?_
  rintro e w1 ⟨rfl, rfl⟩
  clear LN
  go_wp2_with fail
  refine C1.mono ?_
  rintro e w2 ⟨rfl, v, k⟩
  clear C1
  go_wp2
  go_end0
  exact ⟨rfl, F.out _ v.out, k⟩

end Go.Proofs.YtdfjjjcaibadoabDoor
