/-
  quipuref.Fronts: the places of a text's bytes, as the document's answer reckons them.
-/
import Derived.Test.YtkccdhidmihekaaFs1
namespace Go.Proofs.Ytkccdhidmihekaa
open Go.RowKit Go.Maps

theorem seg_succ {l : List Int} {q j : Nat} (hq : q ≤ j) (hj : j < l.length) : (l.take (j + 1)).drop q = (l.take j).drop q ++ [l.getD j 0] := by
  rw [List.take_succ_eq_append_getElem hj, List.drop_append_of_le_length (by rw [List.length_take]; omega)]
  simp [List.getD_eq_getElem?_getD, hj]

theorem seg_none {l : List Int} {q : Nat} : (l.take q).drop q = [] := List.drop_eq_nil_of_le (by rw [List.length_take]; omega)

theorem SetM.same {w : World} {B n : Nat} {S : List Int} {y : Int} (h : SetM w B n S) (hy : y ∈ S) : SetM w B (n + 1) (S ++ [y]) := by
  obtain ⟨D, h1, h2⟩ := h
  refine ⟨D, h1.mono (by omega), fun x hx => ?_⟩
  rw [h2 x hx]
  by_cases hs : x ∈ S
  · simp [hs]
  · have : x ≠ y := fun e => hs (e ▸ hy)
    simp [hs, this]

theorem eq_bytes {y b : Int} (h : (y == b) = true) : y = b := beq_iff_eq.1 h

set_option maxHeartbeats 4000000 in
theorem fronts_any (x : Wd) (w : World) (hx : Bits w x) (hb : InB x.l) (h : x.l.length ≤ 65) :
    Calls Try.prog 16 #[x.v] w fun e w' => ∃ v, e = .returned v ∧ OwnN w w' v (frs x.l) := by
  obtain ⟨a, c, l⟩ := x
  obtain ⟨h1, h2, h0, b0, o, h3, h4⟩ := hx
  simp only [Wd.v] at *
  obtain ⟨n, hn⟩ : ∃ n, l.length = n := ⟨_, rfl⟩
  have HN : Hid (l.length = n) := hn
  have HB : Hid (InB l) := hb
  rw [hn] at h1 h h3 h4 ⊢
  clear hn hb h2 h1
  have H4 : Hid (∀ i, i < n → w.cell? ⟨b0, o + i, none⟩ = some (.int .u8 (l.getD i 0))) := h4
  clear h4
  have hmm := @run_makeMap Try.prog
  have O0 : Hid (OwnN w w (.slice none 0 0) ((frs l).take 0)) := OwnN.nil (Ext.refl w)
  go_enter Try.func16, Try.ntmps16
  go_wp2
  go_loopg [3, 4, 5, 6, 7, 8, 9, 10, 11, 14] n (fun gg v _ _ _ _ _ _ _ _ s wr => ∃ (k : Nat) (u : Value), k ≤ n ∧ n - k ≤ gg ∧ s = .int .i64 k ∧ u = v ∧ Aside (OwnN w wr u ((frs l).take k)))
  case atStart => exact ⟨0, _, by omega, by omega, rfl, rfl, O0.out⟩
  case round =>
    obtain ⟨k, u, hk, hgg, rfl, rfl, A⟩ := hrel
    clear O0
    by_cases hlt : k < n
    · have hltz : (k : Int) < (n : Int) := by omega
      obtain rfl := h3 (by omega)
      have hkl : k < l.length := by rw [HN.out]; exact hlt
      have e1 := A.out.1.cell (H4.out k hlt)
      have hm := inB_at HB.out hkl
      have HFT : Hid (∀ q : Nat, l.getD k 0 ∉ (l.take k).drop q → (q = 0 ∨ (q ≤ k ∧ l.getD (q - 1) 0 = l.getD k 0)) → (frs l).take (k + 1) = (frs l).take k ++ [((cn ((l.take k).drop q) (if q = 0 then l.getD k 0 else 0) : Nat) : Int)]) := by
        intro q hq1 hq2
        rw [frs_take hkl, cn_place (T := l.take k) (fun y hy => HB.out y (List.mem_of_mem_take hy)) hm hq1]
        rcases hq2 with h5 | ⟨h5, h6⟩
        · exact .inl h5
        · rcases Nat.eq_zero_or_pos q with h7 | h7
          · exact .inl h7
          · refine .inr ⟨by rw [List.length_take]; omega, ?_⟩
            rw [← h6]
            simp [List.getD_eq_getElem?_getD, show q - 1 < k by omega]
      obtain ⟨bn, hbn⟩ : ∃ bn : Nat, l.getD k 0 = (bn : Int) := ⟨(l.getD k 0).toNat, by have := mem_a256.1 hm; omega⟩
      have hbn2 : bn < 256 := by have := mem_a256.1 hm; omega
      rw [hbn] at e1 HFT
      clear hm hbn
      have HA : Hid (OwnN w wr u ((frs l).take k)) := A.out
      clear A
      go_wp2
      obtain ⟨wo, hwo⟩ : ∃ wo, wo = wr := ⟨_, rfl⟩
      subst hwo
      go_loopg [6, 7] k (fun gg s6 s7 wq => wq = wo ∧ ∃ j q : Nat, j ≤ k ∧ k - j ≤ gg ∧ q ≤ j ∧ s7 = .int .i64 j ∧ s6 = .int .i64 ((q : Int) - 1) ∧ Aside ((bn : Int) ∉ (l.take j).drop q ∧ (q = 0 ∨ l.getD (q - 1) 0 = (bn : Int))))
      case atStart => exact ⟨rfl, 0, 0, by omega, by omega, by omega, rfl, rfl, by simp, .inl rfl⟩
      case round =>
        obtain ⟨rfl, j, q, hj, hgg2, hqj, rfl, rfl, A1⟩ := hrel
        by_cases hjl : j < k
        · have hjz : (j : Int) < (k : Int) := by omega
          have hjn : (j : Int) < (n : Int) := by omega
          have e2 := HA.out.1.cell (H4.out j (by omega))
          have sg : Hid ((l.take (j + 1)).drop q = (l.take j).drop q ++ [l.getD j 0]) := seg_succ hqj (by rw [HN.out]; omega)
          cases hq : (l.getD j 0 == (bn : Int)) with
          | true =>
            have N1 : Hid ((bn : Int) ∉ (l.take (j + 1)).drop (j + 1) ∧ (j + 1 = 0 ∨ l.getD (j + 1 - 1) 0 = (bn : Int))) := ⟨by rw [seg_none]; simp, .inr (eq_bytes hq)⟩
            rw [eq_bytes hq] at e2
            clear hq A1 sg
            go_wp2
            go_roundg (k - (j + 1))
            case measure => omega
            case rel => exact ⟨rfl, j + 1, j + 1, by omega, by omega, by omega, by go_num, by go_num, N1.out⟩
          | false =>
            have hne : l.getD j 0 ≠ (bn : Int) := beq_eq_false_iff_ne.1 hq
            have N1 : Hid ((bn : Int) ∉ (l.take (j + 1)).drop q ∧ (q = 0 ∨ l.getD (q - 1) 0 = (bn : Int))) := ⟨by
              rw [sg.out]
              intro hmem
              rcases List.mem_append.1 hmem with h5 | h5
              · exact A1.out.1 h5
              · exact hne (by simpa using (List.mem_singleton.1 h5).symm), A1.out.2⟩
            clear A1 sg
            generalize l.getD j 0 = y at *
            go_wp2
            go_roundg (k - (j + 1))
            case measure => omega
            case rel => exact ⟨rfl, j + 1, q, by omega, by omega, by omega, by go_num, rfl, N1.out⟩
        · have hjk : j = k := by omega
          subst hjk
          have HF : Hid ((frs l).take (j + 1) = (frs l).take j ++ [((cn ((l.take j).drop q) (if q = 0 then (bn : Int) else 0) : Nat) : Int)]) := HFT.out q A1.out.1 (by
            rcases A1.out.2 with h5 | h5
            · exact .inl h5
            · exact .inr ⟨hqj, h5⟩)
          clear A1 HFT
          have HS : Hid (SetM (wr.alloc (.map #[] 0)) wr.heap.size 0 ((l.take q).drop q)) := by
            rw [seg_none]; exact SetM.made wr
          have HO : Hid (OwnN w (wr.alloc (.map #[] 0)) u ((frs l).take j)) := HA.out.ext ((Ext.refl _).alloc _)
          have HBm : Hid (w.heap.size ≤ wr.heap.size) := HA.out.1.size
          clear HA
          go_wp2
          generalize wr.alloc (.map #[] 0) = wm at *
          generalize wr.heap.size = Bm at *
          go_loopg [9, 10] j (fun gg s9 s10 wq => ∃ (i m : Nat), q ≤ i ∧ i ≤ j ∧ j - i ≤ gg ∧ m ≤ 256 ∧ s10 = .int .i64 i ∧ s9 = .int .i64 m ∧ Aside (m = cn ((l.take i).drop q) 0) ∧ Aside (SetM wq Bm (i - q) ((l.take i).drop q)) ∧ Aside (OwnN w wq u ((frs l).take j)))
          case atStart => exact ⟨q, 0, by omega, by omega, by omega, by omega, by go_num, rfl, by show 0 = _; rw [seg_none, cn_nil], by show SetM _ _ _ _; rw [Nat.sub_self]; exact HS.out, HO.out⟩
          case round =>
            obtain ⟨i, m, hqi, hij, hgg3, hm256, rfl, rfl, Am, As, Ao⟩ := hrel
            clear HS HO
            by_cases hil : i < j
            · have hiz : (i : Int) < (j : Int) := by omega
              have hin : (i : Int) < (n : Int) := by omega
              have hinn : i < l.length := by rw [HN.out]; omega
              have e2 := Ao.out.1.cell (H4.out i (by omega))
              have hy := inB_at HB.out hinn
              have sg : Hid ((l.take (i + 1)).drop q = (l.take i).drop q ++ [l.getD i 0]) := seg_succ hqi hinn
              have hcp : Hid (cn ((l.take i).drop q ++ [l.getD i 0]) 0 = cn ((l.take i).drop q) 0 + (if l.getD i 0 ∈ (l.take i).drop q then 0 else 1)) := cn_put hy
              have hlk := As.out.look hy
              have HY : Hid (l.getD i 0 ∈ a256) := hy
              have hcl := cn_le ((l.take i).drop q ++ [l.getD i 0]) 0
              clear hy
              by_cases hs : l.getD i 0 ∈ (l.take i).drop q
              · rw [decide_eq_true hs] at hlk
                have N1 : Hid (m = cn ((l.take (i + 1)).drop q) 0) := by
                  show _ = _
                  rw [sg.out, hcp.out, if_pos hs, ← Am.out]
                  rfl
                have N2 : Hid (SetM wr Bm (i + 1 - q) ((l.take (i + 1)).drop q)) := by
                  rw [sg.out, show i + 1 - q = i - q + 1 by omega]
                  exact As.out.same hs
                have N3 : Hid (OwnN w wr u ((frs l).take j)) := Ao.out
                clear sg hcp hcl HY hs Am As Ao
                generalize l.getD i 0 = y at *
                go_wp2
                go_roundg (j - (i + 1))
                case measure => omega
                case rel => exact ⟨i + 1, m, by omega, by omega, by omega, hm256, by go_num, rfl, N1.out, N2.out, N3.out⟩
              · rw [decide_eq_false hs] at hlk
                have N1 : Hid (m + 1 = cn ((l.take (i + 1)).drop q) 0) := by
                  show _ = _
                  rw [sg.out, hcp.out, if_neg hs, ← Am.out]
                have hm2 : m + 1 ≤ 256 := by
                  rw [← sg.out, ← N1.out] at hcl
                  exact hcl
                have N2 : Hid (SetM wr Bm (i - q) ((l.take i).drop q)) := As.out
                have N3 : Hid (OwnN w wr u ((frs l).take j)) := Ao.out
                have NS : Hid (∀ W, SetM W Bm (i - q + 1) ((l.take i).drop q ++ [l.getD i 0]) → SetM W Bm (i + 1 - q) ((l.take (i + 1)).drop q)) := by
                  intro W hW
                  rw [sg.out, show i + 1 - q = i - q + 1 by omega]
                  exact hW
                have hlt2 : Hid (i - q < 1000) := by show _ < _; omega
                clear sg hcp hcl hs Am As Ao
                generalize l.getD i 0 = y at *
                go_wp2_with (at_mapUpdate; refine wpList_putSet rfl _ _ _ rfl w _ Bm (i - q) _ (by rfl) N2.out hlt2.out y HY.out (by rfl) (by rfl) u _ N3.out HBm.out ?_; intro w2 S2 O2; have S2' : Hid (SetM w2 Bm (i + 1 - q) ((l.take (i + 1)).drop q)) := NS.out w2 S2; have O2' : Hid (OwnN w w2 u ((frs l).take j)) := O2; clear S2 O2)
                go_roundg (j - (i + 1))
                case measure => omega
                case rel => exact ⟨i + 1, m + 1, by omega, by omega, by omega, hm2, by go_num, by go_num, N1.out, S2'.out, O2'.out⟩
            · have hij' : i = j := by omega
              subst hij'
              have NO : Hid (OwnN w wr u ((frs l).take i)) := Ao.out
              have NM : Hid (m = cn ((l.take i).drop q) 0) := Am.out
              have NSet : Hid (SetM wr Bm (i - q) ((l.take i).drop q)) := As.out
              clear Ao Am As
              have hfl : Hid ((((frs l).take i).length + 1) * 8 ≤ 140737488355328) := by
                show _ ≤ _
                rw [List.length_take, frs_length, HN.out]
                omega
              by_cases hq0 : q = 0
              · subst hq0
                have NM0 : Hid (m = cn ((l.take i).drop 0) 0) := NM.out
                rw [if_pos rfl] at HF
                go_wp2
                go_loopg [9, 11] bn (fun gg s9 s11 wq => wq = wr ∧ ∃ (y m : Nat), y ≤ bn ∧ bn - y ≤ gg ∧ m ≤ 256 ∧ s11 = .int .i64 y ∧ s9 = .int .i64 m ∧ Aside (m = cn ((l.take i).drop 0) (y : Int)))
                case atStart => exact ⟨rfl, 0, m, by omega, by omega, hm256, rfl, rfl, NM0.out⟩
                case round =>
                  obtain ⟨hwr, y, m2, hy, hgg4, hm2, rfl, rfl, Am⟩ := hrel
                  clear NM NM0
                  subst hwr
                  by_cases hyb : y < bn
                  · have hyz : (y : Int) < (bn : Int) := by omega
                    have hya : (y : Int) ∈ a256 := mem_a256.2 (by omega)
                    have hlk := NSet.out.look hya
                    have hst : Hid (cn ((l.take i).drop 0) ((y : Int) + 1) = cn ((l.take i).drop 0) (y : Int) + (if (y : Int) ∈ (l.take i).drop 0 then 0 else 1)) := cn_step hya
                    have hcl := cn_le ((l.take i).drop 0) ((y : Int) + 1)
                    by_cases hs : (y : Int) ∈ (l.take i).drop 0
                    · rw [decide_eq_true hs] at hlk
                      have N1 : Hid (m2 = cn ((l.take i).drop 0) ((y + 1 : Nat) : Int)) := by
                        show _ = _
                        rw [Int.natCast_add, Int.natCast_one, hst.out, if_pos hs, ← Am.out]
                        rfl
                      clear hst hcl hs Am hya
                      go_wp2
                      go_roundg (bn - (y + 1))
                      case measure => omega
                      case rel => exact ⟨rfl, y + 1, m2, by omega, by omega, hm2, by go_num, rfl, N1.out⟩
                    · rw [decide_eq_false hs] at hlk
                      have N1 : Hid (m2 + 1 = cn ((l.take i).drop 0) ((y + 1 : Nat) : Int)) := by
                        show _ = _
                        rw [Int.natCast_add, Int.natCast_one, hst.out, if_neg hs, ← Am.out]
                      have hm3 : m2 + 1 ≤ 256 := by
                        rw [hst.out, if_neg hs, ← Am.out] at hcl
                        exact hcl
                      clear hst hcl hs Am hya
                      go_wp2
                      go_roundg (bn - (y + 1))
                      case measure => omega
                      case rel => exact ⟨rfl, y + 1, m2 + 1, by omega, by omega, hm3, by go_num, by go_num, N1.out⟩
                  · have hyb' : y = bn := by omega
                    subst hyb'
                    have NF : Hid ((frs l).take (i + 1) = (frs l).take i ++ [(m2 : Int)]) := by
                      show _ = _
                      rw [HF.out, ← Am.out]
                    clear HF Am NSet
                    go_wp2_with (at_builtin; refine wpList_appendNum rfl _ _ rfl w _ u (by rfl) _ NO.out (m2 : Int) (by rfl) hfl.out ?_; intro v' w2 O2; have O2' : Hid (OwnN w w2 v' ((frs l).take (i + 1))) := by (rw [NF.out]; exact O2))
                    go_roundg (n - (i + 1))
                    case measure => omega
                    case rel => exact ⟨i + 1, v', by omega, by omega, by go_num, rfl, O2'.out⟩
              · have hqz : ¬ ((q : Int) - 1 < 0) := by omega
                have NF : Hid ((frs l).take (i + 1) = (frs l).take i ++ [(m : Int)]) := by
                  show _ = _
                  rw [HF.out, if_neg hq0, ← NM.out]
                clear HF NM NSet
                go_wp2_with (at_builtin; refine wpList_appendNum rfl _ _ rfl w _ u (by rfl) _ NO.out (m : Int) (by rfl) hfl.out ?_; intro v' w2 O2; have O2' : Hid (OwnN w w2 v' ((frs l).take (i + 1))) := by (rw [NF.out]; exact O2))
                go_roundg (n - (i + 1))
                case measure => omega
                case rel => exact ⟨i + 1, v', by omega, by omega, by go_num, rfl, O2'.out⟩
    · have F : Hid (OwnN w wr u (frs l)) := by
        have := A.out
        rw [List.take_of_length_le (by rw [frs_length, HN.out]; omega)] at this
        exact this
      clear A
      go_wp2
      go_ret
      exact ⟨u, rfl, F.out⟩

end Go.Proofs.Ytkccdhidmihekaa
