/-
  quipuref.Huffman: the table over all sets of symbols.
-/
import Derived.Test.YtebghhpjpmekkaaRef
namespace Go.Proofs.Ytebghhpjpmekkaa
open Go.RowKit

set_option maxHeartbeats 4000000 in
theorem huffman_any (x : Nm) (w : World) (hx : Nums w x) (hok : werl x.z = 0) :
    Calls Try.prog 11 #[x.v] w fun e w' => ∃ T : Nat → Nat, e = .returned (.int .i64 (T (2 ^ x.z.length - 1) : Nat)) ∧ (∀ s, s < 2 ^ x.z.length → TabAt (wof x.z) x.z.length T s) ∧ Ext w w' := by
  have h8 := (werl_nat hok).1
  have hW := wof_le hok
  have hWz := wof_z hok
  obtain ⟨a, c, z⟩ := x
  simp only [Nm.v] at *
  obtain ⟨n, hn⟩ : ∃ n, z.length = n := ⟨_, rfl⟩
  have HW : Hid (∀ i, wof z i ≤ 1048576) := hW
  have HWZ : Hid (∀ i, z.getD i 0 = (wof z i : Int)) := hWz
  obtain ⟨q1, q2, _, qb, qo, q4, q5⟩ := hx
  simp only at q1 q2 q4 q5
  rw [hn] at q1 q4 q5 h8 ⊢
  have Q5 : Hid (∀ i, i < n → w.cell? ⟨qb, qo + i, none⟩ = some (.int .i64 (z.getD i 0))) := q5
  unfold maxLen at q2
  clear hok hn hW hWz q5
  obtain ⟨M, hM⟩ : ∃ M, 2 ^ n = M := ⟨_, rfl⟩
  have HM : Hid (2 ^ n = M) := hM
  have hM1 : 1 ≤ M := by rw [← hM]; exact Nat.two_pow_pos n
  have hM2 : M ≤ 256 := by rw [← hM]; exact Nat.pow_le_pow_right (n := 2) (by omega) h8
  have hsh : wrap64 ((2 : Int) ^ n) = (M : Int) := by rw [pow_wrap n h8, hM]
  rw [hM]
  have hmk := run_make_row' (P := Try.prog) 22 2 (.int .i64 0) 8 Try.underlying22 info2 rfl .i64 .i64 M (by omega) (by omega)
  clear hM
  go_enter Try.func11, Try.ntmps11
  go_wp2
  obtain ⟨B, hB⟩ : ∃ B, w.heap.size = B := ⟨_, rfl⟩
  have HB : Hid (w.heap.size = B) := hB
  have R0 : Hid (Row (w.alloc (.cells (madeCells #[.int .i64 0] M) 2)) B 2 (tvl M (fun _ => 0))) := by
    have := Row.made w 2 (.int .i64 0) M
    rw [hB] at this
    have e : tvl M (fun _ => 0) = List.replicate M (.int .i64 0) := by
      apply List.ext_getElem
      · simp
      · intro i h1 h2; simp
    rw [e]
    exact this
  have E0 : Hid (Ext w (w.alloc (.cells (madeCells #[.int .i64 0] M) 2))) := (Ext.refl w).alloc _
  have TS : Hid (∀ s', s' < 1 → TabAt (wof z) n (fun _ => 0) s') := by
    intro s' hs'
    have : s' = 0 := by omega
    subst this
    exact ⟨fun _ => rfl, fun h => absurd rfl h⟩
  rw [hB]
  clear hB hmk hsh
  generalize (w.alloc (.cells (madeCells #[.int .i64 0] M) 2)) = W2 at *
  go_loopg [4, 5, 6, 7, 8, 9, 10] M (fun gg s4 _ _ _ _ _ _ wr => ∃ s : Nat, 1 ≤ s ∧ s ≤ M ∧ M - s ≤ gg ∧ s4 = .int .i64 s ∧ Aside (Ext w wr) ∧ Aside (∃ T : Nat → Nat, Row wr B 2 (tvl M T) ∧ (∀ s', s' < s → TabAt (wof z) n T s') ∧ (∀ i, s ≤ i → T i = 0) ∧ ∀ i, T i ≤ (i - 1) * 8388608))
  case atStart => exact ⟨1, by omega, by omega, by omega, rfl, E0.out, fun _ => 0, R0.out, TS.out, fun _ _ => rfl, fun i => Nat.zero_le _⟩
  case round =>
    obtain ⟨s, hs1, hs2, hgg, rfl, EW, A⟩ := hrel
    by_cases hlt : s < M
    · have hltz : (s : Int) < (M : Int) := by omega
      have han : Go.bits .and .i64 (s : Int) ((s : Int) - 1) = ((s &&& (s - 1) : Nat) : Int) := by
        have := i64_and_nat s (s - 1) (by omega) (by omega)
        rwa [Int.natCast_sub (by omega)] at this
      obtain ⟨T, hT1, hT2, hT3, hT4⟩ := A.out
      by_cases hp : s &&& (s - 1) = 0
      · have nx : Hid (∃ T : Nat → Nat, Row wr B 2 (tvl M T) ∧ (∀ s', s' < s + 1 → TabAt (wof z) n T s') ∧ (∀ i, s + 1 ≤ i → T i = 0) ∧ ∀ i, T i ≤ (i - 1) * 8388608) := by
          refine ⟨T, hT1, fun s' hs' => ?_, fun i hi => hT3 i (by omega), hT4⟩
          rcases Nat.lt_succ_iff_lt_or_eq.1 hs' with h | rfl
          · exact hT2 s' h
          · exact ⟨fun _ => hT3 s' (Nat.le_refl _), fun h => absurd hp h⟩
        rw [hp] at han
        clear A hT1 hT2 hT3 hT4 hp
        go_wp2
        go_roundg (M - (s + 1))
        case measure => omega
        case rel => exact ⟨s + 1, by omega, by omega, by omega, by go_num, EW.out, nx.out⟩
      · have HP : Hid (s &&& (s - 1) ≠ 0) := hp
        have hpz : (((s &&& (s - 1) : Nat) : Int) == 0) = false := by simpa using hp
        generalize s &&& (s - 1) = sp at han hpz
        have T1 : Hid (Row wr B 2 (tvl M T)) := hT1
        have T2 : Hid (∀ s', s' < s → TabAt (wof z) n T s') := hT2
        have T3 : Hid (∀ i, s ≤ i → T i = 0) := hT3
        have T4 : Hid (∀ i, T i ≤ (i - 1) * 8388608) := hT4
        have hcv : (s : Int) % 4294967296 = (s : Int) := by omega
        clear A hT1 hT2 hT3 hT4 hp
        obtain ⟨wa, hwa⟩ : ∃ wa, wa = wr := ⟨_, rfl⟩
        go_wp2
        go_loopg [5, 6, 7, 29] n (fun gg s5 _ _ s29 wi => wi = wr ∧ ∃ k u : Nat, k ≤ n ∧ n - k ≤ gg ∧ s29 = .int .i64 k ∧ s5 = .int .i64 u ∧ Aside (u = bw (wof z) k s))
        case atStart => exact ⟨rfl, 0, 0, by omega, by omega, rfl, rfl, by show _ = _; simp [bw, bits]⟩
        case round =>
          obtain ⟨rfl, k, u, hk, hgk, rfl, rfl, AU⟩ := hrel
          by_cases hkn : k < n
          · have hknz : (k : Int) < (n : Int) := by omega
            obtain rfl := q4 (by omega)
            have e1 := EW.out.cell (Q5.out k hkn)
            rw [HWZ.out k] at e1
            have hub : u ≤ 8388608 := by
              rw [AU.out]
              have := bw_le HW.out s k
              omega
            have hwk := HW.out k
            have hs' := bw_succ (wof z) k s
            rw [← AU.out] at hs'
            have HBT := bit_any s k (by omega) (by omega) wr
            generalize wof z k = v at e1 hwk hs'
            cases hbt : s.testBit k with
            | true =>
              rw [hbt] at HBT hs'
              have HS : Hid (u + v = bw (wof z) (k + 1) s) := by show _ = _; rw [hs']; rfl
              clear hs' AU hbt
              go_wp2_with (go_at_call 22; refine HBT.mono ?_; rintro e w' ⟨rfl, rfl⟩)
              go_roundg (n - (k + 1))
              case measure => omega
              case rel => exact ⟨rfl, k + 1, u + v, by omega, by omega, by go_num, by go_num, HS.out⟩
            | false =>
              rw [hbt] at HBT hs'
              have HS : Hid (u = bw (wof z) (k + 1) s) := by show _ = _; rw [hs']; rfl
              clear hs' AU hbt
              go_wp2_with (go_at_call 22; refine HBT.mono ?_; rintro e w' ⟨rfl, rfl⟩)
              go_roundg (n - (k + 1))
              case measure => omega
              case rel => exact ⟨rfl, k + 1, u, by omega, by omega, by go_num, rfl, HS.out⟩
          · have hkn' : k = n := by omega
            subst hkn'
            have HU : Hid (u = bw (wof z) k s) := AU.out
            have hub : u ≤ 8388608 := by
              rw [AU.out]
              have := bw_le HW.out s k
              omega
            clear AU
            obtain ⟨wb, hwb⟩ : ∃ wb, wb = wr := ⟨_, rfl⟩
            have T1' : Hid (Row wb B 2 (tvl M T)) := by rw [hwb]; exact T1.out
            have EW' : Hid (Ext w wb) := by rw [hwb]; exact EW.out
            go_wp2
            rw [← hwb]
            clear hwb T1 EW
            go_loopg [8, 9, 10] s (fun gg s8 s9 _ wi => ∃ (a' : Nat) (bi : Int), 1 ≤ a' ∧ a' ≤ s ∧ s - a' ≤ gg ∧ s9 = .int .i64 a' ∧ s8 = .int .i64 bi ∧ Aside (Bst T s a' bi) ∧ Aside (Qt wb wi))
            case atStart => exact ⟨1, -1, by omega, by omega, by omega, rfl, rfl, Bst.start T s, Qt.refl wb⟩
            case round =>
              obtain ⟨a', bi, ha1, ha2, hga, rfl, rfl, AB, QW⟩ := hrel
              by_cases hal : a' < s
              · have halz : (a' : Int) < (s : Int) := by omega
                have han2 := i64_and_nat a' s (by omega) (by omega)
                obtain ⟨rb1, rb2⟩ := AB.out.range T4.out (by omega) ha2
                by_cases hpa : a' &&& s = a'
                · rw [hpa] at han2
                  have e1 := QW.out.cell (tvl_cell T1'.out a' (by omega))
                  have e2 := QW.out.cell (tvl_cell T1'.out (s - a') (by omega))
                  have b1 := T4.out a'
                  have b2 := T4.out (s - a')
                  have TK := fun h => AB.out.take hpa (by omega) h
                  have KP := AB.out.keep (a := a')
                  have hsa : ((s - a' : Nat) : Int) = (s : Int) - (a' : Int) := by omega
                  have hsb : (s : Int) - (a' : Int) < (M : Int) := by omega
                  have hsc : 0 ≤ (s : Int) - (a' : Int) := by omega
                  have hamz : (a' : Int) < (M : Int) := by omega
                  have hto : ((s : Int) - (a' : Int)).toNat = s - a' := by omega
                  generalize hta : T a' = ta at e1 b1 TK KP
                  generalize htb : T (s - a') = tb at e2 b2 TK KP
                  have hb3 : ta ≤ 2147483648 := by omega
                  have hb4 : tb ≤ 2147483648 := by omega
                  clear AB hta htb b1 b2 hpa
                  by_cases h0 : bi < 0
                  · have NB : Hid (Bst T s (a' + 1) ((ta + tb : Nat) : Int)) := TK (.inl h0)
                    clear TK KP
                    go_wp2
                    go_quiet (fail)
                    go_wp2
                    go_roundg (s - (a' + 1))
                    case measure => omega
                    case rel => exact ⟨a' + 1, ((ta + tb : Nat) : Int), by omega, by omega, by omega, by go_num, by go_num, NB.out, QW.out.trans ⟨_, rfl⟩⟩
                  · by_cases h1 : ((ta : Int) + (tb : Int)) < bi
                    · have NB : Hid (Bst T s (a' + 1) ((ta + tb : Nat) : Int)) := TK (.inr (by omega))
                      clear TK KP
                      go_wp2
                      go_quiet (fail)
                      go_wp2
                      go_roundg (s - (a' + 1))
                      case measure => omega
                      case rel => exact ⟨a' + 1, ((ta + tb : Nat) : Int), by omega, by omega, by omega, by go_num, by go_num, NB.out, QW.out.trans ⟨_, rfl⟩⟩
                    · have NB : Hid (Bst T s (a' + 1) bi) := KP h0 (by omega)
                      clear TK KP
                      go_wp2
                      go_quiet (fail)
                      go_wp2
                      go_roundg (s - (a' + 1))
                      case measure => omega
                      case rel => exact ⟨a' + 1, bi, by omega, by omega, by omega, by go_num, rfl, NB.out, QW.out.trans ⟨_, rfl⟩⟩
                · have NB : Hid (Bst T s (a' + 1) bi) := AB.out.skip hpa
                  have hpb : (((a' &&& s : Nat) : Int) == (a' : Int)) = false := by simp; omega
                  generalize a' &&& s = q at han2 hpb
                  clear AB hpa
                  go_wp2
                  go_roundg (s - (a' + 1))
                  case measure => omega
                  case rel => exact ⟨a' + 1, bi, by omega, by omega, by omega, by go_num, rfl, NB.out, QW.out⟩
              · have has : a' = s := by omega
                subst has
                obtain ⟨m, rfl, hnew, hmb⟩ := TabAt.new (wt := wof z) (n := k) HP.out AB.out T4.out (by rw [← HU.out]; exact hub)
                rw [← HU.out] at hnew hmb
                have hr1 : Row wr B 2 (tvl M T) := T1'.out.ext QW.out.ext
                have fz := hr1.fr
                have c0 := tvl_cell hr1 a' hlt
                have hmu : m + u ≤ 2147483648 := by omega
                have NX : Hid (∃ T : Nat → Nat, Row (wr.setCell ⟨B, a', none⟩ (.int .i64 ((m : Int) + (u : Int)))) B 2 (tvl M T) ∧ (∀ s', s' < a' + 1 → TabAt (wof z) k T s') ∧ (∀ i, a' + 1 ≤ i → T i = 0) ∧ ∀ i, T i ≤ (i - 1) * 8388608) := by
                  refine ⟨updT T a' (m + u), ?_, fun s' hs' => ?_, fun i hi => ?_, fun i => ?_⟩
                  · have := tvl_set hr1 a' (m + u)
                    rwa [Int.natCast_add] at this
                  · rcases Nat.lt_succ_iff_lt_or_eq.1 hs' with h | rfl
                    · exact (T2.out s' h).upd h
                    · exact hnew
                  · unfold updT; rw [if_neg (by omega)]; exact T3.out i (by omega)
                  · unfold updT
                    split
                    · rename_i h; rw [h]; exact hmb
                    · exact T4.out i
                have EX : Hid (Ext w (wr.setCell ⟨B, a', none⟩ (.int .i64 ((m : Int) + (u : Int))))) := (EW'.out.trans QW.out.ext).setCell (by rw [HB.out]; exact Nat.le_refl _) _
                clear AB hnew hmb hr1
                go_wp2
                go_roundg (M - (a' + 1))
                case measure => omega
                case rel => exact ⟨a' + 1, by omega, by omega, by omega, by go_num, EX.out, NX.out⟩
    · have hsM : s = M := by omega
      subst hsM
      obtain ⟨T, hT1, hT2, _, hT4⟩ := A.out
      have c0 := tvl_cell hT1 (s - 1) (by omega)
      have hz1 : ((s - 1 : Nat) : Int) = (s : Int) - 1 := by omega
      have hto : ((s : Int) - 1).toNat = s - 1 := by omega
      have hb1 : (s : Int) - 1 < (s : Int) := by omega
      have hb2 : 0 ≤ (s : Int) - 1 := by omega
      have FIN : Hid (∀ s', s' < s → TabAt (wof z) n T s') := hT2
      obtain ⟨t, ht⟩ : ∃ t, T (s - 1) = t := ⟨_, rfl⟩
      have HT : Hid (T (s - 1) = t) := ht
      rw [ht] at c0
      clear A hT1 hT2 hT4 ht
      go_wp2
      go_ret
      refine ⟨T, ?_, FIN.out, EW.out⟩
      rw [HT.out]
      rfl

end Go.Proofs.Ytebghhpjpmekkaa
