/-
  quipuref.trees, walked: two leaves and more.
-/
import Derived.Test.YtakggfogoobdnaaTre2
namespace Go.Proofs.Ytakggfogoobdnaa
open Go.RowKit

set_option maxHeartbeats 4000000 in
theorem trees_more {q : Nat} (hT : TreesC q) (n : Nat) (w : World) (hq : n ≤ q + 1) (h8 : n ≤ 8) (hn : 2 ≤ n) :
    Calls Try.prog 25 #[.int .i64 n] w fun e w' => ∃ (v : Value) (T : List (List Nat)), e = .returned v ∧ LT w w' v T ∧ (∀ l, l ∈ T ↔ TT n l) ∧ T.length ≤ 16 ^ (n - 1) := by
  have HT : Hid (∀ (m : Nat) (W : World), m < n → Calls Try.prog 25 #[.int .i64 m] W fun e w' => ∃ (v : Value) (T : List (List Nat)), e = .returned v ∧ LT W w' v T ∧ (∀ l, l ∈ T ↔ TT m l) ∧ T.length ≤ 16 ^ (m - 1)) := fun m W hm => hT m W (by omega) (by omega)
  clear hT hq
  have hz0 : ((n : Int) == 0) = false := by simp; omega
  have hz1 : ((n : Int) == 1) = false := by simp; omega
  have HM : Hid ((n - 1) * 16 ^ (n - 2) ≤ 16 ^ (n - 1)) := pow_last n hn h8
  have HMB : Hid (16 ^ (n - 2) ≤ 16777216) := pow_small n h8
  have HPW : Hid (∀ k, 0 < k → k < n → 16 ^ (k - 1) * 16 ^ (n - k - 1) = 16 ^ (n - 2)) := fun k h0 h1 => pows n k h0 h1
  obtain ⟨M, hM⟩ : ∃ M, 16 ^ (n - 2) = M := ⟨_, rfl⟩
  rw [hM] at HM HMB HPW
  clear hM
  go_enter Try.func25, Try.ntmps25
  go_wp2
  go_loopg [3, 4, 6, 8, 9, 11, 13, 29, 38, 44, 56] n (fun gg s3 s4 _ _ _ _ _ _ _ _ _ wr => ∃ (k tl : Nat) (va : Option Addr) (vc : Nat), 0 < k ∧ k ≤ n ∧ n - k ≤ gg ∧ s4 = .int .i64 k ∧ s3 = .slice va tl vc ∧ Aside (∃ T, T.length = tl ∧ LT w wr (.slice va tl vc) T ∧ Fnd n k [] [] [] T ∧ T.length ≤ (k - 1) * M))
  case atStart => exact ⟨1, 0, none, 0, by omega, by omega, by omega, rfl, rfl, [], rfl, ⟨Ext.refl w, [], LL.nil _ _, rfl⟩, Fnd.start n [], by simp⟩
  case round =>
    obtain ⟨k, tl, va, vc, hk0, hkn, hgg, rfl, rfl, A⟩ := hrel
    by_cases hlt : k < n
    · have hltz : (k : Int) < (n : Int) := by omega
      have ta := HT.out k wr hlt
      obtain ⟨wA, rfl⟩ : ∃ wA, wA = wr := ⟨_, rfl⟩
      go_wp2_with fail
      refine ta.mono ?_
      rintro e wB ⟨vA, TA, rfl, hLA, hmA, hlA⟩
      obtain ⟨aA, cA, rfl, hcA1, hcA2⟩ := hLA.form
      have HLA : Hid (LT wA wB (.slice aA TA.length cA) TA) := hLA
      have HMA : Hid ((∀ l, l ∈ TA ↔ TT k l) ∧ TA.length ≤ 16 ^ (k - 1)) := ⟨hmA, hlA⟩
      have S1 : Hid (∃ T, T.length = tl ∧ LT w wB (.slice va tl vc) T ∧ Fnd n k (TA.take 0) [] [] T ∧ T.length ≤ (k - 1) * M + 0 * 16 ^ (n - k - 1) ∧ Outs wA.heap.size wB (.slice va tl vc) ∧ Seg wA.heap.size wB wB) := by
        obtain ⟨T, h1, h2, h3, h4⟩ := A.out
        exact ⟨T, h1, h2.ext hLA.1, by simpa using h3, by omega, h2.outs wB, Seg.refl _ _⟩
      clear A ta hLA hmA hlA
      unfold maxLen at hcA2
      obtain ⟨LA, hLA⟩ : ∃ LA, TA.length = LA := ⟨_, rfl⟩
      have HLL : Hid (TA.length = LA) := hLA
      rw [hLA] at hcA1 HLA HMA ⊢
      clear hLA
      go_wp2
      go_loopg [3, 6, 8, 9, 11, 13, 29, 38, 44, 56] LA (fun gg s3 _ _ _ _ _ s29 _ _ _ wr => ∃ (i tl : Nat) (va : Option Addr) (vc : Nat), i ≤ LA ∧ LA - i ≤ gg ∧ s29 = .int .i64 i ∧ s3 = .slice va tl vc ∧ Aside (∃ T, T.length = tl ∧ LT w wr (.slice va tl vc) T ∧ Fnd n k (TA.take i) [] [] T ∧ T.length ≤ (k - 1) * M + i * 16 ^ (n - k - 1) ∧ Outs wA.heap.size wB (.slice va tl vc) ∧ Seg wA.heap.size wB wr))
      case atStart => exact ⟨0, tl, va, vc, by omega, by omega, rfl, rfl, S1.out⟩
      case round =>
        obtain ⟨i, tl, va, vc, hi, hgg2, rfl, rfl, A⟩ := hrel
        clear S1
        by_cases hil : i < LA
        · have hilz : (i : Int) < (LA : Int) := by omega
          have hiT : i < TA.length := by rw [HLL.out]; exact hil
          obtain ⟨T, a1, a2, a3, a4, a5, a6⟩ := A.out
          obtain ⟨gA, xA, rfl, hxA, hnA⟩ := HLA.out.read i hiT
          have eA := (hnA wr a6).1
          have AA : Hid (∃ T, T.length = tl ∧ LT w wr (.slice va tl vc) T ∧ Fnd n k (TA.take i) TA[i] [] T ∧ T.length ≤ (k - 1) * M + i * 16 ^ (n - k - 1) ∧ Outs wA.heap.size wB (.slice va tl vc) ∧ Seg wA.heap.size wB wr) := ⟨T, a1, a2, by
            intro l
            have := a3 l
            simpa using this, a4, a5, a6⟩
          clear A a1 a2 a3 a4 a5 a6 T
          have tb := HT.out (n - k) wr (by omega)
          have hnk : ((n - k : Nat) : Int) = (n : Int) - (k : Int) := by omega
          rw [hnk] at tb
          obtain ⟨wC, rfl⟩ : ∃ wC, wC = wr := ⟨_, rfl⟩
          have NXA : Hid (∀ wr, Seg wA.heap.size wB wr → Nums wr xA) := fun wr h => (hnA wr h).2
          have hTA := (HMA.out.1 TA[i]).1 (List.getElem_mem hiT)
          have hAl : xA.z.length = k := by rw [hxA, lz_length, hTA.1]
          have HAI : Hid (TT k TA[i] ∧ TA.take (i + 1) = TA.take i ++ [TA[i]]) := ⟨hTA, List.take_succ_eq_append_getElem hiT⟩
          clear hnA hTA
          generalize TA[i] = la at *
          obtain ⟨xa, xc, xz⟩ := xA
          simp only [Nm.v] at eA hAl hxA NXA
          subst hxA
          rw [hAl] at eA
          clear hiT hnk hAl
          go_wp2_with fail
          refine tb.mono ?_
          rintro e wD ⟨vB, TB, rfl, hLB, hmB, hlB⟩
          obtain ⟨aB, cB, rfl, hcB1, hcB2⟩ := hLB.form
          have HLB : Hid (LT wC wD (.slice aB TB.length cB) TB) := hLB
          have HMBB : Hid ((∀ l, l ∈ TB ↔ TT (n - k) l) ∧ TB.length ≤ 16 ^ (n - k - 1)) := ⟨hmB, hlB⟩
          have S2 : Hid (∃ T, T.length = tl ∧ LT w wD (.slice va tl vc) T ∧ Fnd n k (TA.take i) la (TB.take 0) T ∧ T.length ≤ (k - 1) * M + i * 16 ^ (n - k - 1) + 0 ∧ Outs wA.heap.size wB (.slice va tl vc) ∧ Seg wA.heap.size wB wD ∧ Outs wC.heap.size wD (.slice va tl vc) ∧ Seg wC.heap.size wD wD) := by
            obtain ⟨T, h1, h2, h3, h4, h5, h6⟩ := AA.out
            exact ⟨T, h1, h2.ext hLB.1, by simpa using h3, by omega, h5, h6.ext hLB.1, h2.outs wD, Seg.refl _ _⟩
          clear AA tb hLB hmB hlB eA
          unfold maxLen at hcB2
          obtain ⟨LB, hLB⟩ : ∃ LB, TB.length = LB := ⟨_, rfl⟩
          have HLLB : Hid (TB.length = LB) := hLB
          rw [hLB] at hcB1 HLB HMBB ⊢
          clear hLB
          have BND : Hid (∀ i j, i ≤ LA → j ≤ LB → (k - 1) * M + i * 16 ^ (n - k - 1) + j ≤ 300000000) := by
            intro i j hi hj
            have h1 : i * 16 ^ (n - k - 1) ≤ 16 ^ (k - 1) * 16 ^ (n - k - 1) := Nat.mul_le_mul_right _ (by have := HMA.out.2; omega)
            have h2 : 1 * 16 ^ (n - k - 1) ≤ 16 ^ (k - 1) * 16 ^ (n - k - 1) := Nat.mul_le_mul_right _ (Nat.pow_pos (by omega))
            rw [HPW.out k hk0 hlt] at h1 h2
            have h3 : (k - 1) * M ≤ 8 * M := Nat.mul_le_mul_right _ (by omega)
            have h4 := HMB.out
            have h5 := HMBB.out.2
            omega
          go_wp2
          go_loopg [3, 8, 9, 11, 13, 38, 44, 56] LB (fun gg s3 _ _ _ _ s38 _ _ wr => ∃ (j tl : Nat) (va : Option Addr) (vc : Nat), j ≤ LB ∧ LB - j ≤ gg ∧ s38 = .int .i64 j ∧ s3 = .slice va tl vc ∧ Aside (∃ T, T.length = tl ∧ LT w wr (.slice va tl vc) T ∧ Fnd n k (TA.take i) la (TB.take j) T ∧ T.length ≤ (k - 1) * M + i * 16 ^ (n - k - 1) + j ∧ Outs wA.heap.size wB (.slice va tl vc) ∧ Seg wA.heap.size wB wr ∧ Outs wC.heap.size wD (.slice va tl vc) ∧ Seg wC.heap.size wD wr))
          case atStart => exact ⟨0, tl, va, vc, by omega, by omega, rfl, rfl, S2.out⟩
          case round =>
            obtain ⟨j, tl, va, vc, hj, hgg3, rfl, rfl, A⟩ := hrel
            clear S2
            by_cases hjl : j < LB
            · have hjlz : (j : Int) < (LB : Int) := by omega
              have hjT : j < TB.length := by rw [HLLB.out]; exact hjl
              obtain ⟨T, a1, a2, a3, a4, a5, a6, a7, a8⟩ := A.out
              obtain ⟨gB, xB, rfl, hxB, hnB⟩ := HLB.out.read j hjT
              have eB := (hnB wr a8).1
              have hnB2 := (hnB wr a8).2
              have hTB := (HMBB.out.1 TB[j]).1 (List.getElem_mem hjT)
              have hBl : xB.z.length = n - k := by rw [hxB, lz_length, hTB.1]
              have HBI : Hid (TT (n - k) TB[j] ∧ TB.take (j + 1) = TB.take j ++ [TB[j]]) := ⟨hTB, List.take_succ_eq_append_getElem hjT⟩
              obtain ⟨wE, rfl⟩ : ∃ wE, wE = wr := ⟨_, rfl⟩
              have NA : Hid (Nums wE ⟨xa, xc, lz la⟩) := NXA.out wE a6
              have NB : Hid (Nums wE xB) := hnB2
              have AA : Hid (∃ T, T.length = tl ∧ LT w wE (.slice va tl vc) T ∧ Fnd n k (TA.take i) la (TB.take j) T ∧ T.length ≤ (k - 1) * M + i * 16 ^ (n - k - 1) + j ∧ Outs wA.heap.size wB (.slice va tl vc) ∧ Seg wA.heap.size wB wE ∧ Outs wC.heap.size wD (.slice va tl vc) ∧ Seg wC.heap.size wD wE) := ⟨T, a1, a2, a3, a4, a5, a6, a7, a8⟩
              clear A a1 a2 a3 a4 a5 a6 a7 a8 T hnB hnB2 hTB
              generalize TB[j] = lb at *
              obtain ⟨ya, yc, yz⟩ := xB
              simp only [Nm.v] at eB hBl hxB NB
              subst hxB
              rw [hBl] at eB
              clear hBl hjT
              obtain ⟨pa1, pa2, _, ba, oa, pa4, pa5⟩ := NA.out
              obtain ⟨pb1, pb2, _, bb, ob, pb4, pb5⟩ := NB.out
              have hlal : (lz la).length = k := by rw [lz_length, HAI.out.1.1]
              have hlbl : (lz lb).length = n - k := by rw [lz_length, HBI.out.1.1]
              simp only at pa1 pa2 pa4 pa5 pb1 pb2 pb4 pb5
              rw [hlal] at pa1 pa4 pa5
              rw [hlbl] at pb1 pb4 pb5
              unfold maxLen at pa2 pb2
              obtain rfl := pa4 (by omega)
              obtain rfl := pb4 (by omega)
              have PA : Hid (∀ i, i < k → wE.cell? ⟨ba, oa + i, none⟩ = some (.int .i64 ((lz la).getD i 0))) := pa5
              have PB : Hid (∀ i, i < n - k → wE.cell? ⟨bb, ob + i, none⟩ = some (.int .i64 ((lz lb).getD i 0))) := pb5
              clear pa4 pa5 pb4 pb5 NA NB
              go_wp2
              go_loopg [9, 11, 44] k (fun gg s9 _ s44 wr => ∃ (p : Nat) (sv : Value), p ≤ k ∧ k - p ≤ gg ∧ s44 = .int .i64 p ∧ sv = s9 ∧ Aside (OwnN wE wr sv (lz (up1 (la.take p)))))
              case atStart => exact ⟨0, _, by omega, by omega, rfl, rfl, OwnN.nil (Ext.refl wE)⟩
              case round =>
                obtain ⟨p, sv, hp, hgg4, rfl, rfl, A⟩ := hrel
                by_cases hpk : p < k
                · have hpkz : (p : Int) < (k : Int) := by omega
                  have e1 := A.out.1.cell (PA.out p hpk)
                  rw [lz_z] at e1
                  have hpl : p < la.length := by rw [HAI.out.1.1]; exact hpk
                  have nx : Hid (lz (up1 (la.take (p + 1))) = lz (up1 (la.take p)) ++ [((la.getD p 0 : Nat) : Int) + 1]) := by
                    show _ = _
                    rw [up1_take la p hpl, lz_append]
                    simp [lz]
                  have le : Hid (((lz (up1 (la.take p))).length + 1) * 8 ≤ 140737488355328) := by
                    show _ ≤ _
                    rw [lz_length, up1_length, List.length_take]
                    omega
                  have hd8 := HAI.out.1.get (by omega) p
                  generalize la.getD p 0 = d at e1 nx hd8
                  clear hpl
                  go_wp2_with (at_builtin; refine wpList_appendNum rfl _ _ rfl wE wr _ (by rfl) _ A.out ((d : Int) + 1) (by rfl) le.out ?_; intro v' w1 B)
                  have B' : Hid (OwnN wE w1 v' (lz (up1 (la.take (p + 1))))) := by show OwnN wE w1 v' _; rw [nx.out]; exact B
                  clear B
                  go_wp2
                  go_roundg (k - (p + 1))
                  case measure => omega
                  case rel => exact ⟨p + 1, _, by omega, by omega, by go_num, rfl, B'.out⟩
                · have A0 : Hid (OwnN wE wr sv (lz (up1 la ++ up1 (lb.take 0)))) := by
                    have := A.out
                    rw [List.take_of_length_le (by rw [HAI.out.1.1]; omega)] at this
                    show OwnN wE wr sv _
                    simpa using this
                  clear A
                  go_wp2
                  go_loopg [9, 13, 56] (n - k) (fun gg s9 _ s56 wr => ∃ (p : Nat) (sv : Value), p ≤ n - k ∧ n - k - p ≤ gg ∧ s56 = .int .i64 p ∧ sv = s9 ∧ Aside (OwnN wE wr sv (lz (up1 la ++ up1 (lb.take p)))))
                  case atStart => exact ⟨0, _, by omega, by omega, rfl, rfl, A0.out⟩
                  case round =>
                    obtain ⟨p, sv, hp, hgg5, rfl, rfl, A⟩ := hrel
                    by_cases hpk : p < n - k
                    · have hpkz : (p : Int) < ((n - k : Nat) : Int) := by omega
                      have e1 := A.out.1.cell (PB.out p hpk)
                      rw [lz_z] at e1
                      have hpl : p < lb.length := by rw [HBI.out.1.1]; exact hpk
                      have nx : Hid (lz (up1 la ++ up1 (lb.take (p + 1))) = lz (up1 la ++ up1 (lb.take p)) ++ [((lb.getD p 0 : Nat) : Int) + 1]) := by
                        show _ = _
                        rw [up1_take lb p hpl, ← List.append_assoc, lz_append (up1 la ++ up1 (lb.take p))]
                        simp [lz]
                      have le : Hid (((lz (up1 la ++ up1 (lb.take p))).length + 1) * 8 ≤ 140737488355328) := by
                        show _ ≤ _
                        rw [lz_length, List.length_append, up1_length, up1_length, List.length_take, HAI.out.1.1]
                        omega
                      have hd8 := HBI.out.1.get (by omega) p
                      generalize lb.getD p 0 = d at e1 nx hd8
                      clear hpl
                      go_wp2_with (at_builtin; refine wpList_appendNum rfl _ _ rfl wE wr _ (by rfl) _ A.out ((d : Int) + 1) (by rfl) le.out ?_; intro v' w1 B)
                      have B' : Hid (OwnN wE w1 v' (lz (up1 la ++ up1 (lb.take (p + 1))))) := by show OwnN wE w1 v' _; rw [nx.out]; exact B
                      clear B
                      go_wp2
                      go_roundg (n - k - (p + 1))
                      case measure => omega
                      case rel => exact ⟨p + 1, _, by omega, by omega, by go_num, rfl, B'.out⟩
                    · have O5 : Hid (OwnN wE wr sv (lz (up1 (la ++ lb)))) := by
                        have := A.out
                        rw [List.take_of_length_le (by rw [HBI.out.1.1]; omega)] at this
                        show OwnN wE wr sv _
                        simpa [up1] using this
                      obtain ⟨sa, sc, hsv⟩ := O5.out.form
                      have hsl : (lz (up1 (la ++ lb))).length = n := by rw [lz_length, up1_length, List.length_append, HAI.out.1.1, HBI.out.1.1]; omega
                      rw [hsl] at hsv
                      subst hsv
                      clear hsl
                      obtain ⟨T, a1, a2, a3, a4, a5, a6, a7, a8⟩ := AA.out
                      have T5 : Hid (LT w wr (.slice va tl vc) T) := a2.ext O5.out.1
                      have T0 : Hid (w.heap.size ≤ wE.heap.size ∧ 0 < (up1 (la ++ lb)).length ∧ T.length ≤ 900000000) := by
                        refine ⟨a2.1.size, by rw [up1_length, List.length_append, HAI.out.1.1]; omega, ?_⟩
                        have := BND.out i j hi hj
                        omega
                      have NX : Hid (∀ v' w2, LT w w2 v' (T ++ [up1 (la ++ lb)]) → (∀ k, k < wr.heap.size → some k ≠ (Value.slice va tl vc).ownBlock → w2.heap[k]? = wr.heap[k]?) → wr.heap.size ≤ w2.heap.size → (v'.ownBlock = (Value.slice va tl vc).ownBlock ∨ ∃ k, v'.ownBlock = some k ∧ wr.heap.size ≤ k) →
                          ∃ va' vc', v' = .slice va' (tl + 1) vc' ∧ ∃ T, T.length = tl + 1 ∧ LT w w2 (.slice va' (tl + 1) vc') T ∧ Fnd n k (TA.take i) la (TB.take (j + 1)) T ∧ T.length ≤ (k - 1) * M + i * 16 ^ (n - k - 1) + (j + 1) ∧ Outs wA.heap.size wB (.slice va' (tl + 1) vc') ∧ Seg wA.heap.size wB w2 ∧ Outs wC.heap.size wD (.slice va' (tl + 1) vc') ∧ Seg wC.heap.size wD w2) := by
                        intro v' w2 h1 h2 h3 h4
                        obtain ⟨va', vc', hv', _⟩ := h1.form
                        have hTl : (T ++ [up1 (la ++ lb)]).length = tl + 1 := by simp [a1]
                        rw [hTl] at hv'
                        subst hv'
                        refine ⟨va', vc', rfl, _, hTl, h1, by rw [HBI.out.2]; exact a3.one, by omega, a5.step (a6.ext O5.out.1).2 h4, (a6.ext O5.out.1).step a5 h2 h3, a7.step (a8.ext O5.out.1).2 h4, (a8.ext O5.out.1).step a7 h2 h3⟩
                      clear A AA a1 a2 a3 a4 a5 a6 a7 a8
                      go_wp2_with (at_builtin; refine wpList_appendLT rfl _ _ rfl w wE wr _ (by rfl) T T5.out (up1 (la ++ lb)) _ O5.out T0.out.1 T0.out.2.1 wr.heap.size (by rfl) rfl T0.out.2.2 ?_; intro v' w2 h1 h2 h3 h4)
                      obtain ⟨va', vc', rfl, hN⟩ := NX.out v' w2 h1 h2 h3 h4
                      have HN : Hid (∃ T, T.length = tl + 1 ∧ LT w w2 (.slice va' (tl + 1) vc') T ∧ Fnd n k (TA.take i) la (TB.take (j + 1)) T ∧ T.length ≤ (k - 1) * M + i * 16 ^ (n - k - 1) + (j + 1) ∧ Outs wA.heap.size wB (.slice va' (tl + 1) vc') ∧ Seg wA.heap.size wB w2 ∧ Outs wC.heap.size wD (.slice va' (tl + 1) vc') ∧ Seg wC.heap.size wD w2) := hN
                      clear NX T5 T0 O5 h1 h2 h3 h4 hN T
                      go_wp2
                      go_roundg (LB - (j + 1))
                      case measure => omega
                      case rel => exact ⟨j + 1, tl + 1, va', vc', by omega, by omega, by go_num, rfl, HN.out⟩
            · have hjj : j = LB := by omega
              have NX : Hid (∃ T, T.length = tl ∧ LT w wr (.slice va tl vc) T ∧ Fnd n k (TA.take (i + 1)) [] [] T ∧ T.length ≤ (k - 1) * M + (i + 1) * 16 ^ (n - k - 1) ∧ Outs wA.heap.size wB (.slice va tl vc) ∧ Seg wA.heap.size wB wr) := by
                obtain ⟨T, a1, a2, a3, a4, a5, a6, a7, a8⟩ := A.out
                have eT : TB.take j = TB := List.take_of_length_le (by rw [HLLB.out]; omega)
                rw [eT] at a3
                refine ⟨T, a1, a2, by rw [HAI.out.2]; exact a3.all HMBB.out.1, ?_, a5, a6⟩
                have := HMBB.out.2
                rw [Nat.add_mul]
                omega
              clear A
              go_wp2
              go_roundg (LA - (i + 1))
              case measure => omega
              case rel => exact ⟨i + 1, tl, va, vc, by omega, by omega, by go_num, rfl, NX.out⟩
        · have hii : i = LA := by omega
          have NX : Hid (∃ T, T.length = tl ∧ LT w wr (.slice va tl vc) T ∧ Fnd n (k + 1) [] [] [] T ∧ T.length ≤ (k + 1 - 1) * M) := by
            obtain ⟨T, a1, a2, a3, a4, a5, a6⟩ := A.out
            rw [List.take_of_length_le (by rw [HLL.out]; omega)] at a3
            refine ⟨T, a1, a2, a3.next hk0 HMA.out.1, ?_⟩
            have h1 : i * 16 ^ (n - k - 1) ≤ 16 ^ (k - 1) * 16 ^ (n - k - 1) := Nat.mul_le_mul_right _ (by have := HMA.out.2; omega)
            rw [HPW.out k hk0 hlt] at h1
            have h2 : (k + 1 - 1) * M = (k - 1) * M + M := by
              obtain ⟨k', rfl⟩ : ∃ k', k = k' + 1 := ⟨k - 1, by omega⟩
              simp [Nat.add_mul]
            omega
          clear A
          go_wp2
          go_roundg (n - (k + 1))
          case measure => omega
          case rel => exact ⟨k + 1, tl, va, vc, by omega, by omega, by omega, by go_num, rfl, NX.out⟩
    · have hkk : k = n := by omega
      have F : Hid (∃ T, LT w wr (.slice va tl vc) T ∧ (∀ l, l ∈ T ↔ TT n l) ∧ T.length ≤ 16 ^ (n - 1)) := by
        obtain ⟨T, a1, a2, a3, a4⟩ := A.out
        subst hkk
        exact ⟨T, a2, a3.done hn, Nat.le_trans a4 HM.out⟩
      clear A
      have hltz : ¬ (k : Int) < (n : Int) := by omega
      go_wp2
      go_ret
      obtain ⟨T, h1, h2, h3⟩ := F.out
      exact ⟨_, rfl, T, h1, h2, h3⟩

theorem trees_of {q : Nat} (hT : TreesC q) : TreesC (q + 1) := by
  intro n w hq h8
  match n, hq, h8 with
  | 0, _, _ => exact trees_zero w
  | 1, _, _ => exact trees_one w
  | n + 2, hq, h8 => exact trees_more hT (n + 2) w hq h8 (by omega)

/-- quipuref.trees, of so many leaves as may be. -/
theorem trees_all : ∀ k, TreesC k
  | 0 => fun n w h _ => by
    obtain rfl : n = 0 := by omega
    exact trees_zero w
  | k + 1 => trees_of (trees_all k)

end Go.Proofs.Ytakggfogoobdnaa
