/-
  slices.symMergeCmpFunc where one of the two parts has one number alone.
-/
import Derived.Test.YtkccdhidmihekaaIns
namespace Go.Proofs.Ytkccdhidmihekaa
open Go.RowKit



/-- The part is made anew of these numbers, sorted. -/
def Merged (key : Int → Int) (w : World) (B : Nat) (P Z0 R : List Int) : Prop := ∃ Z, Row w B 3 (iv (P ++ (Z ++ R))) ∧ Z.Perm Z0 ∧ Z.Pairwise (LexI key)

/-- What a search between two places has found so far, at its lower end. -/
def Lo (key : Int → Int) (Y : List Int) (x : Int) (m I : Nat) : Prop := I = m ∨ ∃ h : I - m - 1 < Y.length, key Y[I - m - 1] < key x
/-- .. at its upper end. -/
def Hi (key : Int → Int) (Y : List Int) (x : Int) (m b J : Nat) : Prop := J = b ∨ ∃ h : J - m < Y.length, ¬ key Y[J - m] < key x

set_option maxRecDepth 100000 in
set_option maxHeartbeats 4000000 in
theorem sym_left (w0 w : World) (B c n a m b f : Nat) (lb : Array Value) (key : Int → Int) (P Y R S : List Int) (x : Int) (hE : Ext w0 w) (hr : Row w B 3 (iv (P ++ x :: (Y ++ R)))) (hxS : x ∈ S) (hYS : ∀ y ∈ Y, y ∈ S)
    (hn : (P ++ x :: (Y ++ R)).length = n) (hn2 : n ≤ 1000) (ha : P.length = a) (hm : a + 1 = m) (hb : m + Y.length = b)
    (hY : Y.Pairwise (LexI key)) (hl : Low [x] Y)
    (eg : ∀ args w, (callFunc f args).run Try.prog w = .ok (.enter f args) w) (hc : CmpOn w0 f lb key S) :
    Calls Try.prog 43 #[.slice (some ⟨B, 0, none⟩) n c, .int .i64 a, .int .i64 m, .int .i64 b, .func (.func f) #[] lb] w
      fun e w' => e = .returned (.tuple #[]) ∧ Hid (Merged key w' B P (x :: Y) R) ∧ Hid (KB B w w') := by
  have HA : Hid (P.length = a) := ha
  have HL : Hid (m + Y.length = b) := hb
  have HC : Hid (CmpOn w0 f lb key S) := hc
  have HE : Hid (Ext w0 w) := hE
  have HR : Hid (Row w B 3 (iv (P ++ x :: (Y ++ R)))) := hr
  have HM : Hid (a + 1 = m) := hm
  have hbn : b ≤ n := by simp at hn; omega
  have hmb : m ≤ b := by omega
  have HCM : Hid (∀ (W : World) (k : Nat) (h : k < Y.length), Ext w W → Calls Try.prog f (#[.int .i64 Y[k], .int .i64 x] ++ lb) W fun e w' => e = .returned (.int .i64 (cmpI (key Y[k]) (key x))) ∧ ∃ m, w' = W.drewN m) := fun W k h hW =>
    hc W _ _ (hYS _ (List.getElem_mem h)) hxS (hE.trans hW)
  have HY : Hid (Y.Pairwise (LexI key)) := hY
  have HLow : Hid (Low [x] Y) := hl
  have hma : (m : Int) - (a : Int) = 1 := by omega
  have ham : a < m := by omega
  clear hr hE hn ha hb hc hY hl hYS hxS hm
  go_enter Try.func43, Try.ntmps43
  go_wp2
  go_loopg [10, 11, 12] n (fun gg s10 s11 _ wr => ∃ I J : Nat, m ≤ I ∧ I ≤ J ∧ J ≤ b ∧ J - I ≤ gg ∧ s10 = .int .i64 I ∧ s11 = .int .i64 J ∧ Aside (Qt w wr) ∧ Aside (Lo key Y x m I) ∧ Aside (Hi key Y x m b J))
  case atStart => exact ⟨m, b, by omega, by omega, by omega, by omega, rfl, rfl, Qt.refl _, .inl rfl, .inl rfl⟩
  case round =>
    obtain ⟨I, J, hI1, hI2, hI3, hgg, rfl, rfl, BW, A1, A2⟩ := hrel
    by_cases hlt : I < J
    · have hltz : (I : Int) < (J : Int) := by omega
      obtain ⟨H, hH⟩ : ∃ H : Nat, ((I : Int) + (J : Int)) / 2 = (H : Int) := ⟨(I + J) / 2, by omega⟩
      have hH1 : I ≤ H := by omega
      have hH2 : H < J := by omega
      have hk : H - m < Y.length := by have := HL.out; omega
      have hRq := HR.out.ext BW.out.ext
      have ex : wr.cell? ⟨B, a, none⟩ = some (.int .i64 x) := hRq.at HA.out.symm
      have ey : wr.cell? ⟨B, H, none⟩ = some (.int .i64 Y[H - m]) := by
        have e : P ++ x :: (Y ++ R) = (P ++ x :: Y.take (H - m)) ++ Y[H - m] :: (Y.drop (H - m + 1) ++ R) := by
          have : Y = Y.take (H - m) ++ Y[H - m] :: Y.drop (H - m + 1) := by
            rw [← List.drop_eq_getElem_cons hk, List.take_append_drop]
          conv => lhs; rw [this]
          simp only [List.append_assoc, List.cons_append]
        rw [e] at hRq
        refine hRq.at ?_
        rw [List.length_append, List.length_cons, List.length_take, HA.out]
        have := HM.out
        omega
      have hcm : Hid (∀ W, Qt wr W → Calls Try.prog f (#[.int .i64 Y[H - m], .int .i64 x] ++ lb) W fun e w' => e = .returned (.int .i64 (cmpI (key Y[H - m]) (key x))) ∧ ∃ q, w' = W.drewN q) := fun W hq => HCM.out W (H - m) hk (BW.out.ext.trans hq.ext)
      have hHn : (H : Int) < (n : Int) := by omega
      have han : (a : Int) < (n : Int) := by omega
      by_cases hkey : key Y[H - m] < key x
      · have N1 : Hid (Lo key Y x m (H + 1)) := .inr ⟨by omega, by
          have e : H + 1 - m - 1 = H - m := by omega
          simp only [e]
          exact hkey⟩
        have N2 : Hid (Hi key Y x m b J) := A2.out
        rw [cmpI_lt hkey] at hcm
        clear hkey hRq A1 A2
        generalize Y[H - m] = y at *
        go_wp2
        go_quiet ((go_at_fn f; exact Calls.quiet_of (hcm.out _ ⟨_, rfl⟩)))
        go_wp2
        go_roundg (J - (H + 1))
        case measure => omega
        case rel => exact ⟨H + 1, J, by omega, by omega, by omega, by omega, by go_num, rfl, BW.out.trans ⟨_, rfl⟩, N1.out, N2.out⟩
      · have N1 : Hid (Hi key Y x m b H) := .inr ⟨hk, hkey⟩
        have N2 : Hid (Lo key Y x m I) := A1.out
        have hcn : ¬ cmpI (key Y[H - m]) (key x) < 0 := by rw [cmpI_neg]; exact hkey
        generalize cmpI (key Y[H - m]) (key x) = r at hcm hcn
        clear hkey hRq A1 A2
        generalize Y[H - m] = y at *
        go_wp2
        go_quiet ((go_at_fn f; exact Calls.quiet_of (hcm.out _ ⟨_, rfl⟩)))
        go_wp2
        go_roundg (H - I)
        case measure => omega
        case rel => exact ⟨I, H, by omega, by omega, by omega, by omega, rfl, rfl, BW.out.trans ⟨_, rfl⟩, N2.out, N1.out⟩
    · have hIJ : I = J := by omega
      subst hIJ
      have FIN : Hid ((Y.take (I - m) ++ x :: Y.drop (I - m)).Pairwise (LexI key)) := by
        refine merge_left HY.out HLow.out ?_ ?_
        · rcases A1.out with h | ⟨h, h1⟩
          · exact .inl (by omega)
          · exact .inr ⟨h, h1⟩
        · rcases A2.out with h | ⟨h, h1⟩
          · have := HL.out
            exact .inl (by omega)
          · exact .inr ⟨h, h1⟩
      clear A1 A2 HCM
      obtain ⟨wo, hwo⟩ : ∃ wo, wo = wr := ⟨_, rfl⟩
      subst hwo
      have R1 : Hid (Row wo B 3 (iv (P ++ Y.take 0 ++ x :: (Y.drop 0 ++ R)))) := by
        show Row _ _ _ _
        simpa using HR.out.ext BW.out.ext
      go_wp2
      go_loopg [13] n (fun gg s wr => ∃ K : Nat, a ≤ K ∧ K + 1 ≤ I ∧ n - K ≤ gg ∧ s = .int .i64 K ∧ Aside (KB B w wr) ∧ Aside (Row wr B 3 (iv (P ++ Y.take (K - a) ++ x :: (Y.drop (K - a) ++ R)))))
      case atStart => exact ⟨a, by omega, by omega, by omega, rfl, KB.of_ext BW.out.ext, by show Row _ _ _ _; rw [Nat.sub_self]; exact R1.out⟩
      case round =>
        obtain ⟨K, hK1, hK2, hgg2, rfl, BK, A⟩ := hrel
        clear R1
        by_cases hlt2 : K + 1 < I
        · have hltz : (K : Int) < (I : Int) - 1 := by omega
          have hk : K - a < Y.length := by have := HL.out; have := HM.out; omega
          have hR := A.out
          rw [List.drop_eq_getElem_cons hk] at hR
          have hR2 : Row wr B 3 (iv ((P ++ Y.take (K - a)) ++ x :: ([] ++ Y[K - a] :: (Y.drop (K - a + 1) ++ R)))) := by
            have e : (P ++ Y.take (K - a)) ++ x :: ([] ++ Y[K - a] :: (Y.drop (K - a + 1) ++ R)) = P ++ Y.take (K - a) ++ x :: (Y[K - a] :: Y.drop (K - a + 1) ++ R) := by
              simp only [List.append_assoc, List.cons_append, List.nil_append]
            rw [e]; exact hR
          have l1 : K = (P ++ Y.take (K - a)).length := by rw [List.length_append, List.length_take, HA.out]; omega
          have c1 := hR2.at l1
          have c2 : wr.cell? ⟨B, K + 1, none⟩ = some (.int .i64 Y[K - a]) := by
            have : Row wr B 3 (iv ((P ++ Y.take (K - a) ++ [x]) ++ Y[K - a] :: (Y.drop (K - a + 1) ++ R))) := by
              have e : (P ++ Y.take (K - a) ++ [x]) ++ Y[K - a] :: (Y.drop (K - a + 1) ++ R) = P ++ Y.take (K - a) ++ x :: (Y[K - a] :: Y.drop (K - a + 1) ++ R) := by
                simp only [List.append_assoc, List.cons_append, List.nil_append]
              rw [e]; exact hR
            refine this.at ?_
            rw [List.length_append, ← l1]; rfl
          have f1 := hR2.fr K
          have f2 := hR2.fr (K + 1)
          have SW : Hid (Row ((wr.setCell ⟨B, K, none⟩ (.int .i64 Y[K - a])).setCell ⟨B, K + 1, none⟩ (.int .i64 x)) B 3 (iv (P ++ Y.take (K + 1 - a) ++ x :: (Y.drop (K + 1 - a) ++ R)))) := by
            have := hR2.swap2 (i := K) (j := K + 1) l1 (by rw [← l1]; rfl)
            have e : P ++ (Y.take (K - a) ++ [Y[K - a]]) ++ x :: (Y.drop (K - a + 1) ++ R) = (P ++ Y.take (K - a)) ++ Y[K - a] :: ([] ++ x :: (Y.drop (K - a + 1) ++ R)) := by
              simp only [List.append_assoc, List.cons_append, List.nil_append]
            rw [show K + 1 - a = K - a + 1 by omega, List.take_succ_eq_append_getElem hk, e]
            exact this
          have KK : Hid (KB B w ((wr.setCell ⟨B, K, none⟩ (.int .i64 Y[K - a])).setCell ⟨B, K + 1, none⟩ (.int .i64 x))) := (BK.out.setCell _).setCell _
          have b1 : (K : Int) + 1 < (n : Int) := by omega
          have b0 : (K : Int) < (n : Int) := by omega
          clear hR hR2 l1 A BK FIN HR
          generalize Y[K - a] = y at *
          go_wp2
          go_region
          go_wp2
          go_roundg (n - (K + 1))
          case measure => omega
          case rel => exact ⟨K + 1, by omega, by omega, by omega, by go_num, KK.out.trans (KB.of_ext (ext_drew _)), SW.out.ext (ext_drew _)⟩
        · have hKI : K - a = I - m := by have := HM.out; omega
          have F : Hid (Merged key wr B P (x :: Y) R) := by
            refine ⟨Y.take (I - m) ++ x :: Y.drop (I - m), ?_, ?_, FIN.out⟩
            · have := A.out
              rw [hKI] at this
              simpa using this
            · refine List.perm_middle.trans ?_
              rw [List.take_append_drop]
          have hlz : ¬ (K : Int) < (I : Int) - 1 := by omega
          clear A FIN HR hKI
          go_wp2
          refine bodyPost_ret (results_none rfl _ _ _) rfl ?_
          exact ⟨rfl, F, BK.out⟩

/-- What a search in the first part has found so far, at its lower end. -/
def Lo2 (key : Int → Int) (X : List Int) (y : Int) (a I : Nat) : Prop := I = a ∨ ∃ h : I - a - 1 < X.length, ¬ key y < key X[I - a - 1]
/-- .. at its upper end. -/
def Hi2 (key : Int → Int) (X : List Int) (y : Int) (a m J : Nat) : Prop := J = m ∨ ∃ h : J - a < X.length, key y < key X[J - a]

set_option maxRecDepth 100000 in
set_option maxHeartbeats 4000000 in
theorem sym_right (w0 w : World) (B c n a m b f : Nat) (lb : Array Value) (key : Int → Int) (P X R S : List Int) (y : Int) (hE : Ext w0 w) (hr : Row w B 3 (iv (P ++ (X ++ y :: R)))) (hyS : y ∈ S) (hXS : ∀ x ∈ X, x ∈ S)
    (hn : (P ++ (X ++ y :: R)).length = n) (hn2 : n ≤ 1000) (ha : P.length = a) (hm : a + X.length = m) (hb : m + 1 = b) (hX1 : X.length ≠ 1)
    (hX : X.Pairwise (LexI key)) (hl : Low X [y])
    (eg : ∀ args w, (callFunc f args).run Try.prog w = .ok (.enter f args) w) (hc : CmpOn w0 f lb key S) :
    Calls Try.prog 43 #[.slice (some ⟨B, 0, none⟩) n c, .int .i64 a, .int .i64 m, .int .i64 b, .func (.func f) #[] lb] w
      fun e w' => e = .returned (.tuple #[]) ∧ Hid (Merged key w' B P (X ++ [y]) R) ∧ Hid (KB B w w') := by
  have HA : Hid (P.length = a) := ha
  have HL : Hid (a + X.length = m) := hm
  have HR : Hid (Row w B 3 (iv (P ++ (X ++ y :: R)))) := hr
  have hbn : b ≤ n := by simp at hn; omega
  have ham : a ≤ m := by omega
  have hmb : m < b := by omega
  have HCM : Hid (∀ (W : World) (k : Nat) (h : k < X.length), Ext w W → Calls Try.prog f (#[.int .i64 y, .int .i64 X[k]] ++ lb) W fun e w' => e = .returned (.int .i64 (cmpI (key y) (key X[k]))) ∧ ∃ m, w' = W.drewN m) := fun W k h hW =>
    hc W _ _ hyS (hXS _ (List.getElem_mem h)) (hE.trans hW)
  have HX : Hid (X.Pairwise (LexI key)) := hX
  have HLow : Hid (Low X [y]) := hl
  have hma : (((m : Int) - (a : Int)) == 1) = false := beq_eq_false_iff_ne.2 (by omega)
  have hbm : (b : Int) - (m : Int) = 1 := by omega
  clear hr hE hn ha hb hc hX hl hXS hyS hm hX1
  go_enter Try.func43, Try.ntmps43
  go_wp2
  go_loopg [14, 15, 16] n (fun gg s10 s11 _ wr => ∃ I J : Nat, a ≤ I ∧ I ≤ J ∧ J ≤ m ∧ J - I ≤ gg ∧ s10 = .int .i64 I ∧ s11 = .int .i64 J ∧ Aside (Qt w wr) ∧ Aside (Lo2 key X y a I) ∧ Aside (Hi2 key X y a m J))
  case atStart => exact ⟨a, m, by omega, by omega, by omega, by omega, rfl, rfl, Qt.refl _, .inl rfl, .inl rfl⟩
  case round =>
    obtain ⟨I, J, hI1, hI2, hI3, hgg, rfl, rfl, BW, A1, A2⟩ := hrel
    by_cases hlt : I < J
    · have hltz : (I : Int) < (J : Int) := by omega
      obtain ⟨H, hH⟩ : ∃ H : Nat, ((I : Int) + (J : Int)) / 2 = (H : Int) := ⟨(I + J) / 2, by omega⟩
      have hH1 : I ≤ H := by omega
      have hH2 : H < J := by omega
      have hk : H - a < X.length := by have := HL.out; omega
      have hRq := HR.out.ext BW.out.ext
      have ex : wr.cell? ⟨B, m, none⟩ = some (.int .i64 y) := by
        rw [← List.append_assoc] at hRq
        refine hRq.at ?_
        rw [List.length_append, HA.out, HL.out]
      have ey : wr.cell? ⟨B, H, none⟩ = some (.int .i64 X[H - a]) := by
        have e : P ++ (X ++ y :: R) = (P ++ X.take (H - a)) ++ X[H - a] :: (X.drop (H - a + 1) ++ y :: R) := by
          have : X = X.take (H - a) ++ X[H - a] :: X.drop (H - a + 1) := by
            rw [← List.drop_eq_getElem_cons hk, List.take_append_drop]
          conv => lhs; rw [this]
          simp only [List.append_assoc, List.cons_append]
        rw [e] at hRq
        refine hRq.at ?_
        rw [List.length_append, List.length_take, HA.out]
        omega
      have hcm : Hid (∀ W, Qt wr W → Calls Try.prog f (#[.int .i64 y, .int .i64 X[H - a]] ++ lb) W fun e w' => e = .returned (.int .i64 (cmpI (key y) (key X[H - a]))) ∧ ∃ q, w' = W.drewN q) := fun W hq => HCM.out W (H - a) hk (BW.out.ext.trans hq.ext)
      have hHn : (H : Int) < (n : Int) := by omega
      have hmn : (m : Int) < (n : Int) := by omega
      by_cases hkey : key y < key X[H - a]
      · have N1 : Hid (Hi2 key X y a m H) := .inr ⟨hk, hkey⟩
        have N2 : Hid (Lo2 key X y a I) := A1.out
        rw [cmpI_lt hkey] at hcm
        clear hkey hRq A1 A2
        generalize X[H - a] = x at *
        go_wp2
        go_quiet ((go_at_fn f; exact Calls.quiet_of (hcm.out _ ⟨_, rfl⟩)))
        go_wp2
        go_roundg (H - I)
        case measure => omega
        case rel => exact ⟨I, H, by omega, by omega, by omega, by omega, rfl, rfl, BW.out.trans ⟨_, rfl⟩, N2.out, N1.out⟩
      · have N1 : Hid (Lo2 key X y a (H + 1)) := .inr ⟨by omega, by
          have e : H + 1 - a - 1 = H - a := by omega
          simp only [e]
          exact hkey⟩
        have N2 : Hid (Hi2 key X y a m J) := A2.out
        have hcn : ¬ cmpI (key y) (key X[H - a]) < 0 := by rw [cmpI_neg]; exact hkey
        generalize cmpI (key y) (key X[H - a]) = r at hcm hcn
        clear hkey hRq A1 A2
        generalize X[H - a] = x at *
        go_wp2
        go_quiet ((go_at_fn f; exact Calls.quiet_of (hcm.out _ ⟨_, rfl⟩)))
        go_wp2
        · go_roundg (J - (H + 1))
          case measure => omega
          case rel => exact ⟨H + 1, J, by omega, by omega, by omega, by omega, by go_num, rfl, BW.out.trans ⟨_, rfl⟩, N1.out, N2.out⟩
        · rename_i hx
          exfalso
          simp at hx
          omega
    · have hIJ : I = J := by omega
      subst hIJ
      have FIN : Hid ((X.take (I - a) ++ y :: X.drop (I - a)).Pairwise (LexI key)) := by
        refine merge_right HX.out HLow.out ?_ ?_
        · rcases A1.out with h | ⟨h, h1⟩
          · exact .inl (by omega)
          · exact .inr ⟨h, h1⟩
        · rcases A2.out with h | ⟨h, h1⟩
          · have := HL.out
            exact .inl (by omega)
          · exact .inr ⟨h, h1⟩
      clear A1 A2 HCM
      obtain ⟨wo, hwo⟩ : ∃ wo, wo = wr := ⟨_, rfl⟩
      subst hwo
      have R1 : Hid (Row wo B 3 (iv (P ++ X.take (m - a) ++ y :: (X.drop (m - a) ++ R)))) := by
        have e : X.take (m - a) = X := List.take_of_length_le (by have := HL.out; omega)
        have e2 : X.drop (m - a) = [] := List.drop_eq_nil_of_le (by have := HL.out; omega)
        show Row _ _ _ _
        rw [e, e2]
        simpa using HR.out.ext BW.out.ext
      go_wp2
      go_loopg [17] m (fun gg s wr => ∃ K : Nat, I ≤ K ∧ K ≤ m ∧ K ≤ gg ∧ s = .int .i64 K ∧ Aside (KB B w wr) ∧ Aside (Row wr B 3 (iv (P ++ X.take (K - a) ++ y :: (X.drop (K - a) ++ R)))))
      case atStart => exact ⟨m, by omega, by omega, by omega, rfl, KB.of_ext BW.out.ext, R1.out⟩
      case round =>
        obtain ⟨K, hK1, hK2, hgg2, rfl, BK, A⟩ := hrel
        clear R1
        by_cases hlt2 : I < K
        · obtain ⟨k, rfl⟩ : ∃ k, K = k + 1 := ⟨K - 1, by omega⟩
          have hltz : (k : Int) + 1 > (I : Int) := by omega
          have hk : k - a < X.length := by have := HL.out; omega
          have hR := A.out
          rw [show k + 1 - a = k - a + 1 by omega, List.take_succ_eq_append_getElem hk] at hR
          have hR2 : Row wr B 3 (iv ((P ++ X.take (k - a)) ++ X[k - a] :: ([] ++ y :: (X.drop (k - a + 1) ++ R)))) := by
            have e : (P ++ X.take (k - a)) ++ X[k - a] :: ([] ++ y :: (X.drop (k - a + 1) ++ R)) = P ++ (X.take (k - a) ++ [X[k - a]]) ++ y :: (X.drop (k - a + 1) ++ R) := by
              simp only [List.append_assoc, List.cons_append, List.nil_append]
            rw [e]; exact hR
          have l1 : k = (P ++ X.take (k - a)).length := by rw [List.length_append, List.length_take, HA.out]; omega
          have c1 := hR2.at l1
          have c2 : wr.cell? ⟨B, k + 1, none⟩ = some (.int .i64 y) := by
            rw [← List.append_assoc] at hR
            refine hR.at ?_
            rw [List.length_append, ← l1]; rfl
          have f1 := hR2.fr k
          have f2 := hR2.fr (k + 1)
          have SW : Hid (Row ((wr.setCell ⟨B, k + 1, none⟩ (.int .i64 X[k - a])).setCell ⟨B, k, none⟩ (.int .i64 y)) B 3 (iv (P ++ X.take (k - a) ++ y :: (X.drop (k - a) ++ R)))) := by
            have := hR2.swap2' (i := k) (j := k + 1) l1 (by rw [← l1]; rfl)
            have e : P ++ X.take (k - a) ++ y :: (X[k - a] :: X.drop (k - a + 1) ++ R) = (P ++ X.take (k - a)) ++ y :: ([] ++ X[k - a] :: (X.drop (k - a + 1) ++ R)) := by
              simp only [List.append_assoc, List.cons_append, List.nil_append]
            rw [List.drop_eq_getElem_cons hk, e]
            exact this
          have KK : Hid (KB B w ((wr.setCell ⟨B, k + 1, none⟩ (.int .i64 X[k - a])).setCell ⟨B, k, none⟩ (.int .i64 y))) := (BK.out.setCell _).setCell _
          have b1 : (k : Int) + 1 < (n : Int) := by omega
          have b0 : (k : Int) < (n : Int) := by omega
          clear hR hR2 l1 A BK FIN HR
          generalize X[k - a] = x at *
          go_wp2
          go_region
          go_wp2
          go_roundg k
          case measure => omega
          case rel => exact ⟨k, by omega, by omega, by omega, by go_num, KK.out.trans (KB.of_ext (ext_drew _)), SW.out.ext (ext_drew _)⟩
        · have hKI : K = I := by omega
          subst hKI
          have F : Hid (Merged key wr B P (X ++ [y]) R) := by
            refine ⟨X.take (K - a) ++ y :: X.drop (K - a), ?_, ?_, FIN.out⟩
            · have := A.out
              simpa using this
            · refine List.perm_middle.trans ?_
              rw [List.take_append_drop]
              exact (List.perm_append_singleton y X).symm
          clear A FIN HR
          go_wp2
          refine bodyPost_ret (results_none rfl _ _ _) rfl ?_
          exact ⟨rfl, F, BK.out⟩

end Go.Proofs.Ytkccdhidmihekaa
