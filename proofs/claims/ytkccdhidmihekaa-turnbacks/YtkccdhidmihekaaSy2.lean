/-
  slices.symMergeCmpFunc: two sorted parts, all of the one less than all of the other one, are made one.
-/
import Derived.Test.YtkccdhidmihekaaSy1
import Derived.Deep.DeepCutAuto
namespace Go.Proofs.Ytkccdhidmihekaa
open Go.RowKit

/-- What is asked of symMerge at parts of so many numbers together. -/
def SymC (w0 : World) (B c n f : Nat) (lb : Array Value) (key : Int → Int) (S : List Int) (k : Nat) : Prop :=
  ∀ (w : World) (P X Y R : List Int) (a m b : Nat), Ext w0 w → Row w B 3 (iv (P ++ (X ++ (Y ++ R)))) → (∀ x ∈ X, x ∈ S) → (∀ y ∈ Y, y ∈ S) → (P ++ (X ++ (Y ++ R))).length = n → P.length = a → a + X.length = m → m + Y.length = b →
    0 < X.length → 0 < Y.length → X.length + Y.length ≤ k → X.Pairwise (LexI key) → Y.Pairwise (LexI key) → Low X Y →
    Calls Try.prog 43 #[.slice (some ⟨B, 0, none⟩) n c, .int .i64 a, .int .i64 m, .int .i64 b, .func (.func f) #[] lb] w
      fun e w' => e = .returned (.tuple #[]) ∧ Hid (Merged key w' B P (X ++ Y) R) ∧ Hid (KB B w w')

/-- What the search between two parts has found so far, at its lower end. -/
def Lo3 (key : Int → Int) (X Y : List Int) (a mid lo I : Nat) : Prop := I = lo ∨ ∃ (h1 : I - a - 1 < X.length) (h2 : mid - I < Y.length), ¬ key Y[mid - I] < key X[I - a - 1]
/-- .. at its upper end. -/
def Hi3 (key : Int → Int) (X Y : List Int) (a mid hi J : Nat) : Prop := J = hi ∨ ∃ (h1 : J - a < X.length) (h2 : mid - J - 1 < Y.length), key Y[mid - J - 1] < key X[J - a]

/-- Behind the first step. -/
def Stg (w W : World) (B : Nat) (l : List Int) : Prop := Row W B 3 (iv l) ∧ KB B w W

theorem row_get {w : World} {B k : Nat} {l : List Int} (h : Row w B 3 (iv l)) (hk : k < l.length) : w.cell? ⟨B, k, none⟩ = some (.int .i64 l[k]) := by
  rw [h.cell k (by simpa using hk)]
  simp

set_option maxRecDepth 100000 in
set_option maxHeartbeats 8000000 in
theorem sym_gen (w0 : World) (B c n f k : Nat) (lb : Array Value) (key : Int → Int) (S : List Int) (hB : w0.heap.size ≤ B) (hn2 : n ≤ 1000)
    (eg : ∀ args w, (callFunc f args).run Try.prog w = .ok (.enter f args) w) (hc : CmpOn w0 f lb key S) (IH : SymC w0 B c n f lb key S k)
    (w : World) (P X Y R : List Int) (a m b : Nat) (hE : Ext w0 w) (hr : Row w B 3 (iv (P ++ (X ++ (Y ++ R))))) (hXS : ∀ x ∈ X, x ∈ S) (hYS : ∀ y ∈ Y, y ∈ S) (hn : (P ++ (X ++ (Y ++ R))).length = n) (ha : P.length = a) (hm : a + X.length = m) (hb : m + Y.length = b)
    (hX2 : 2 ≤ X.length) (hY2 : 2 ≤ Y.length) (hk : X.length + Y.length ≤ k + 1) (hX : X.Pairwise (LexI key)) (hY : Y.Pairwise (LexI key)) (hl : Low X Y) :
    Calls Try.prog 43 #[.slice (some ⟨B, 0, none⟩) n c, .int .i64 a, .int .i64 m, .int .i64 b, .func (.func f) #[] lb] w
      fun e w' => e = .returned (.tuple #[]) ∧ Hid (Merged key w' B P (X ++ Y) R) ∧ Hid (KB B w w') := by
  obtain ⟨mid, hmid⟩ : ∃ mid : Nat, ((a : Int) + (b : Int)) / 2 = (mid : Int) := ⟨(a + b) / 2, by omega⟩
  have hbn : b ≤ n := by simp at hn; omega
  have hmid1 : a < mid := by omega
  have hmid2 : mid < b := by omega
  have hmid3 : 2 * mid ≤ a + b ∧ a + b ≤ 2 * mid + 1 := by omega
  have ham : a < m := by omega
  have hmb : m < b := by omega
  have HA : Hid (P.length = a) := ha
  have HM : Hid (a + X.length = m) := hm
  have HBB : Hid (m + Y.length = b) := hb
  have HE : Hid (Ext w0 w) := hE
  have HR : Hid (Row w B 3 (iv (P ++ (X ++ (Y ++ R))))) := hr
  have HCM : Hid (∀ (W : World) (i j : Nat) (h1 : i < X.length) (h2 : j < Y.length), Ext w W → Calls Try.prog f (#[.int .i64 Y[j], .int .i64 X[i]] ++ lb) W fun e w' => e = .returned (.int .i64 (cmpI (key Y[j]) (key X[i]))) ∧ ∃ m, w' = W.drewN m) := fun W i j h1 h2 hW =>
    hc W _ _ (hYS _ (List.getElem_mem h2)) (hXS _ (List.getElem_mem h1)) (hE.trans hW)
  have FIN : Hid (∀ e d, Cut key X Y e d → ∀ W Z1 Z2, Z1.Perm (X.take e ++ Y.take d) → Z1.Pairwise (LexI key) → Z2.Perm (X.drop e ++ Y.drop d) → Z2.Pairwise (LexI key) → Row W B 3 (iv (P ++ (Z1 ++ (Z2 ++ R)))) → Merged key W B P (X ++ Y) R) := by
    intro e d hcut W Z1 Z2 p1 s1 p2 s2 hW
    obtain ⟨q1, q2⟩ := hcut.join hX hY hl p1 s1 p2 s2
    exact ⟨Z1 ++ Z2, by simpa using hW, q1, q2⟩
  have HSRT : Hid (X.Pairwise (LexI key) ∧ Y.Pairwise (LexI key) ∧ Low X Y) := ⟨hX, hY, hl⟩
  have HIH : Hid (SymC w0 B c n f lb key S k) := IH
  have HXS : Hid (∀ x ∈ X, x ∈ S) := hXS
  have HYS : Hid (∀ y ∈ Y, y ∈ S) := hYS
  have HK : Hid (X.length + Y.length ≤ k + 1) := hk
  have HN : Hid ((P ++ (X ++ (Y ++ R))).length = n) := hn
  have hma : (((m : Int) - (a : Int)) == 1) = false := beq_eq_false_iff_ne.2 (by omega)
  have hbm : (((b : Int) - (m : Int)) == 1) = false := beq_eq_false_iff_ne.2 (by omega)
  clear hr hE hn ha hb hc hX hY hl hXS hYS hm hX2 hY2 hk IH
  go_enter Try.func43, Try.ntmps43
  go_upto_if 140 with fail
  go_cut [20, 21] (fun s20 s21 wx => wx = w ∧ ∃ lo hi : Nat, s20 = .int .i64 lo ∧ s21 = .int .i64 hi ∧ a ≤ lo ∧ lo ≤ hi ∧ hi ≤ m ∧ hi ≤ mid ∧ mid - lo ≤ b - m ∧ Aside ((mid - lo = b - m ∨ lo = a) ∧ (hi = mid ∨ hi = m)))
  case first =>
    by_cases hmm : m > mid
    · have hz : (m : Int) > (mid : Int) := by omega
      go_wp2
      go_meet
      case rel => exact ⟨rfl, mid + m - b, mid, by go_num, rfl, by omega, by omega, by omega, by omega, by omega, .inl (by omega), .inl rfl⟩
    · have hz : ¬ (m : Int) > (mid : Int) := by omega
      go_wp2
      go_meet
      case rel => exact ⟨rfl, a, m, rfl, rfl, by omega, by omega, by omega, by omega, by omega, .inr rfl, .inr rfl⟩
  case rest =>
    obtain ⟨rfl, lo, hi, rfl, rfl, g1, g2, g3, g4, g5, AD⟩ := hcut
    obtain ⟨wo, hwo⟩ : ∃ wo, wo = wc := ⟨_, rfl⟩
    subst hwo
    go_wp2
    go_loopg [20, 21, 23] n (fun gg s20 s21 _ wr => ∃ I J : Nat, lo ≤ I ∧ I ≤ J ∧ J ≤ hi ∧ J - I ≤ gg ∧ s20 = .int .i64 I ∧ s21 = .int .i64 J ∧ Aside (Qt wo wr) ∧ Aside (Lo3 key X Y a mid lo I) ∧ Aside (Hi3 key X Y a mid hi J))
    case atStart => exact ⟨lo, hi, by omega, by omega, by omega, by omega, rfl, rfl, Qt.refl _, .inl rfl, .inl rfl⟩
    case round =>
      obtain ⟨I, J, hI1, hI2, hI3, hgg, rfl, rfl, BW, A1, A2⟩ := hrel
      by_cases hlt : I < J
      · have hltz : (I : Int) < (J : Int) := by omega
        obtain ⟨H, hH⟩ : ∃ H : Nat, ((I : Int) + (J : Int)) / 2 = (H : Int) := ⟨(I + J) / 2, by omega⟩
        have hH1 : I ≤ H := by omega
        have hH2 : H < J := by omega
        have k1 : H - a < X.length := by have := HM.out; omega
        have k2 : mid - H - 1 < Y.length := by have := HBB.out; omega
        have hRq := HR.out.ext BW.out.ext
        have eX : wr.cell? ⟨B, H, none⟩ = some (.int .i64 X[H - a]) := by
          have hlen : H < (P ++ (X ++ (Y ++ R))).length := by rw [HN.out]; omega
          rw [row_get hRq hlen]
          rw [List.getElem_append_right (by rw [HA.out]; omega), List.getElem_append_left (by rw [HA.out]; exact k1)]
          simp only [HA.out]
        obtain ⟨G, hG⟩ : ∃ G : Nat, (mid : Int) + (m : Int) - 1 - (H : Int) = (G : Int) := ⟨mid + m - 1 - H, by omega⟩
        have eY : wr.cell? ⟨B, G, none⟩ = some (.int .i64 Y[mid - H - 1]) := by
          have hlen : G < (P ++ (X ++ (Y ++ R))).length := by rw [HN.out]; omega
          have e1 : G - a - X.length = mid - H - 1 := by have := HM.out; omega
          rw [row_get hRq hlen]
          rw [List.getElem_append_right (by rw [HA.out]; omega), List.getElem_append_right (by rw [HA.out]; have := HM.out; omega), List.getElem_append_left (by rw [HA.out, e1]; exact k2)]
          simp only [HA.out, e1]
        have hcm : Hid (∀ W, Qt wr W → Calls Try.prog f (#[.int .i64 Y[mid - H - 1], .int .i64 X[H - a]] ++ lb) W fun e w' => e = .returned (.int .i64 (cmpI (key Y[mid - H - 1]) (key X[H - a]))) ∧ ∃ q, w' = W.drewN q) := fun W hq => HCM.out W _ _ k1 k2 (BW.out.ext.trans hq.ext)
        have hHn : (H : Int) < (n : Int) := by omega
        have hGn : (G : Int) < (n : Int) := by omega
        by_cases hkey : key Y[mid - H - 1] < key X[H - a]
        · have N1 : Hid (Hi3 key X Y a mid hi H) := .inr ⟨k1, k2, hkey⟩
          have N2 : Hid (Lo3 key X Y a mid lo I) := A1.out
          rw [cmpI_lt hkey] at hcm
          clear hkey hRq A1 A2 HCM FIN HIH HSRT HR
          generalize X[H - a] = x at *
          generalize Y[mid - H - 1] = y at *
          go_wp2
          go_quiet ((go_at_fn f; exact Calls.quiet_of (hcm.out _ ⟨_, rfl⟩)))
          go_wp2
          go_roundg (H - I)
          case measure => omega
          case rel => exact ⟨I, H, by omega, by omega, by omega, by omega, rfl, rfl, BW.out.trans ⟨_, rfl⟩, N2.out, N1.out⟩
        · have N1 : Hid (Lo3 key X Y a mid lo (H + 1)) := .inr ⟨by omega, by omega, by
            have e : H + 1 - a - 1 = H - a := by omega
            have e2 : mid - (H + 1) = mid - H - 1 := by omega
            simp only [e, e2]
            exact hkey⟩
          have N2 : Hid (Hi3 key X Y a mid hi J) := A2.out
          have hcn : ¬ cmpI (key Y[mid - H - 1]) (key X[H - a]) < 0 := by rw [cmpI_neg]; exact hkey
          generalize cmpI (key Y[mid - H - 1]) (key X[H - a]) = r at hcm hcn
          clear hkey hRq A1 A2 HCM FIN HIH HSRT HR
          generalize X[H - a] = x at *
          generalize Y[mid - H - 1] = y at *
          go_wp2
          go_quiet ((go_at_fn f; exact Calls.quiet_of (hcm.out _ ⟨_, rfl⟩)))
          go_wp2
          · go_roundg (J - (H + 1))
            case measure => omega
            case rel => exact ⟨H + 1, J, by omega, by omega, by omega, by omega, by go_num, rfl, BW.out.trans ⟨_, rfl⟩, N1.out, N2.out⟩
          · rename_i hx
            exfalso
            simp at hx
            omega
      · have hIJ : I = J := by omega
        subst hIJ
        have CUT : Hid (Cut key X Y (I - a) (mid - I)) := by
          have h1 := HM.out
          have h2 := HBB.out
          refine ⟨by omega, by omega, ?_, ?_⟩
          · rcases A1.out with h | ⟨x1, x2, x3⟩
            · rcases AD.out.1 with h3 | h3
              · exact .inr (.inl (by omega))
              · exact .inl (by omega)
            · exact .inr (.inr ⟨x1, x2, x3⟩)
          · rcases A2.out with h | ⟨x1, x2, x3⟩
            · rcases AD.out.2 with h3 | h3
              · exact .inl (by omega)
              · exact .inr (.inl (by omega))
            · exact .inr (.inr ⟨x2, x1, x3⟩)
        clear A1 A2 HCM AD
        obtain ⟨E, hE⟩ : ∃ E : Nat, (mid : Int) + (m : Int) - (I : Int) = (E : Int) := ⟨mid + m - I, by omega⟩
        have FIN2 := FIN.out _ _ CUT.out
        have lX1 : Hid ((X.take (I - a)).length = I - a) := by show _ = _; rw [List.length_take]; have := HM.out; omega
        have lX2 : Hid ((X.drop (I - a)).length = m - I) := by show _ = _; rw [List.length_drop]; have := HM.out; omega
        have lY1 : Hid ((Y.take (mid - I)).length = mid - I) := by show _ = _; rw [List.length_take]; have := HBB.out; omega
        have lY2 : Hid ((Y.drop (mid - I)).length = b - E) := by show _ = _; rw [List.length_drop]; have := HBB.out; omega
        have eXX : Hid (X = X.take (I - a) ++ X.drop (I - a)) := (List.take_append_drop _ _).symm
        have eYY : Hid (Y = Y.take (mid - I) ++ Y.drop (mid - I)) := (List.take_append_drop _ _).symm
        have sX1 : Hid ((X.take (I - a)).Pairwise (LexI key)) := HSRT.out.1.sublist (List.take_sublist _ _)
        have sX2 : Hid ((X.drop (I - a)).Pairwise (LexI key)) := HSRT.out.1.sublist (List.drop_sublist _ _)
        have sY1 : Hid ((Y.take (mid - I)).Pairwise (LexI key)) := HSRT.out.2.1.sublist (List.take_sublist _ _)
        have sY2 : Hid ((Y.drop (mid - I)).Pairwise (LexI key)) := HSRT.out.2.1.sublist (List.drop_sublist _ _)
        have L1 : Hid (Low (X.take (I - a)) (Y.take (mid - I))) := low_sub HSRT.out.2.2 (fun _ h => List.mem_of_mem_take h) (fun _ h => List.mem_of_mem_take h)
        have L2 : Hid (Low (X.drop (I - a)) (Y.drop (mid - I))) := low_sub HSRT.out.2.2 (fun _ h => List.mem_of_mem_drop h) (fun _ h => List.mem_of_mem_drop h)
        have S1 : Hid ((∀ x ∈ X.take (I - a), x ∈ S) ∧ (∀ x ∈ X.drop (I - a), x ∈ S) ∧ (∀ y ∈ Y.take (mid - I), y ∈ S) ∧ (∀ y ∈ Y.drop (mid - I), y ∈ S)) :=
          ⟨fun x h => HXS.out x (List.mem_of_mem_take h), fun x h => HXS.out x (List.mem_of_mem_drop h), fun x h => HYS.out x (List.mem_of_mem_take h), fun x h => HYS.out x (List.mem_of_mem_drop h)⟩
        have hRq : Hid (Row wr B 3 (iv (P ++ (X ++ (Y ++ R))))) := HR.out.ext BW.out.ext
        have FF : Hid (∀ W Z1 Z2, Z1.Perm (X.take (I - a) ++ Y.take (mid - I)) → Z1.Pairwise (LexI key) → Z2.Perm (X.drop (I - a) ++ Y.drop (mid - I)) → Z2.Pairwise (LexI key) → Row W B 3 (iv (P ++ (Z1 ++ (Z2 ++ R)))) → Merged key W B P (X ++ Y) R) := FIN2
        have HKW : Hid (KB B wo wr) := KB.of_ext BW.out.ext
        have HEW : Hid (∀ W, KB B wo W → Ext w0 W) := fun W h => h.ext HE.out hB
        have hEm : E = mid + m - I := by omega
        have HEm : Hid (E = mid + m - I) := hEm
        clear FIN2 FIN CUT HSRT HXS HYS HR BW hEm hgg
        generalize X.take (I - a) = X1 at *
        generalize X.drop (I - a) = X2 at *
        generalize Y.take (mid - I) = Y1 at *
        generalize Y.drop (mid - I) = Y2 at *
        have HN2 : Hid ((P ++ (X1 ++ (Y1 ++ (X2 ++ (Y2 ++ R))))).length = n) := by
          have := HN.out
          rw [eXX.out, eYY.out] at this
          show _ = _
          simp only [List.length_append] at this ⊢
          omega
        have ST0 : Hid (¬ (I < m ∧ m < E) → Stg wo wr B (P ++ (X1 ++ (Y1 ++ (X2 ++ (Y2 ++ R)))))) := by
          intro hno
          refine ⟨?_, HKW.out⟩
          have h1 := hRq.out
          rw [eXX.out, eYY.out] at h1
          have h2 := lX2.out
          have h3 := lY1.out
          have h4 := HEm.out
          rcases Nat.lt_or_ge I m with h5 | h5
          · have : Y1 = [] := List.eq_nil_of_length_eq_zero (by omega)
            subst this
            simpa using h1
          · have : X2 = [] := List.eq_nil_of_length_eq_zero (by omega)
            subst this
            simpa using h1
        have ROT : Hid ((I < m ∧ m < E) → Calls Try.prog 44 #[.slice (some ⟨B, 0, none⟩) n c, .int .i64 I, .int .i64 m, .int .i64 E, .func (.func f) #[] lb] wr fun e w' => e = .returned (.tuple #[]) ∧ Aside (Stg wo w' B (P ++ (X1 ++ (Y1 ++ (X2 ++ (Y2 ++ R))))))) := by
          rintro ⟨h5, h6⟩
          have h1 := hRq.out
          rw [eXX.out, eYY.out] at h1
          have h2 := lX2.out
          have h3 := lY1.out
          have h4 := HEm.out
          have h7 := lX1.out
          have h8 := HA.out
          have := rotate_any B c n I m E (.func (.func f) #[] lb) (P ++ X1) X2 Y1 (Y2 ++ R) wr (by simpa using h1) (by
            have := HN2.out
            simp only [List.length_append] at this ⊢
            omega) hn2 (by rw [List.length_append]; omega) (by rw [List.length_append]; omega) (by rw [List.length_append]; omega) (by omega) (by omega)
          refine this.mono ?_
          rintro e w' ⟨rfl, r1, r2⟩
          refine ⟨rfl, ?_, HKW.out.trans r2.out⟩
          have h9 := r1.out
          simpa using h9
        have ST1 : Hid (¬ (a < I ∧ I < mid) → ∀ W, Stg wo W B (P ++ (X1 ++ (Y1 ++ (X2 ++ (Y2 ++ R))))) → Merged key W B P (X1 ++ Y1) (X2 ++ (Y2 ++ R)) ∧ KB B wo W) := by
          rintro hno W ⟨h1, h2⟩
          refine ⟨⟨X1 ++ Y1, by simpa using h1, List.Perm.refl _, ?_⟩, h2⟩
          have h3 := lX1.out
          have h4 := lY1.out
          rcases Nat.lt_or_ge a I with h5 | h5
          · have : Y1 = [] := List.eq_nil_of_length_eq_zero (by omega)
            rw [this, List.append_nil]
            exact sX1.out
          · have : X1 = [] := List.eq_nil_of_length_eq_zero (by omega)
            rw [this, List.nil_append]
            exact sY1.out
        have MG1 : Hid ((a < I ∧ I < mid) → ∀ W, Stg wo W B (P ++ (X1 ++ (Y1 ++ (X2 ++ (Y2 ++ R))))) → Calls Try.prog 43 #[.slice (some ⟨B, 0, none⟩) n c, .int .i64 a, .int .i64 I, .int .i64 mid, .func (.func f) #[] lb] W fun e w' => e = .returned (.tuple #[]) ∧ Aside (Merged key w' B P (X1 ++ Y1) (X2 ++ (Y2 ++ R)) ∧ KB B wo w')) := by
          rintro ⟨h5, h6⟩ W ⟨h1, h2⟩
          have h3 := lX1.out
          have h4 := lY1.out
          have h7 := HM.out
          have h8 := HBB.out
          have h9 := HK.out
          refine (HIH.out W P X1 Y1 (X2 ++ (Y2 ++ R)) a I mid (HEW.out W h2) h1 S1.out.1 S1.out.2.2.1 HN2.out HA.out (by omega) (by omega) (by omega) (by omega) (by omega) sX1.out sY1.out L1.out).mono ?_
          rintro e w' ⟨rfl, r1, r2⟩
          exact ⟨rfl, r1.out, h2.trans r2.out⟩
        have ST2 : Hid (¬ (mid < E ∧ E < b) → ∀ W, Merged key W B P (X1 ++ Y1) (X2 ++ (Y2 ++ R)) ∧ KB B wo W → Merged key W B P (X ++ Y) R ∧ KB B wo W) := by
          rintro hno W ⟨⟨Z1, h1, p1, s1⟩, h2⟩
          refine ⟨FF.out W Z1 (X2 ++ Y2) p1 s1 (List.Perm.refl _) ?_ (by simpa using h1), h2⟩
          have h3 := lX2.out
          have h4 := lY2.out
          have h6 := HEm.out
          rcases Nat.lt_or_ge mid E with h5 | h5
          · have : Y2 = [] := List.eq_nil_of_length_eq_zero (by omega)
            rw [this, List.append_nil]
            exact sX2.out
          · have : X2 = [] := List.eq_nil_of_length_eq_zero (by omega)
            rw [this, List.nil_append]
            exact sY2.out
        have MG2 : Hid ((mid < E ∧ E < b) → ∀ W, Merged key W B P (X1 ++ Y1) (X2 ++ (Y2 ++ R)) ∧ KB B wo W → Calls Try.prog 43 #[.slice (some ⟨B, 0, none⟩) n c, .int .i64 mid, .int .i64 E, .int .i64 b, .func (.func f) #[] lb] W fun e w' => e = .returned (.tuple #[]) ∧ Aside (Merged key w' B P (X ++ Y) R ∧ KB B wo w')) := by
          rintro ⟨h5, h6⟩ W ⟨⟨Z1, h1, p1, s1⟩, h2⟩
          have h3 := lX2.out
          have h4 := lY2.out
          have h7 := HM.out
          have h8 := HBB.out
          have h9 := HK.out
          have h10 := HEm.out
          have h11 := HA.out
          have h12 := p1.length_eq
          rw [List.length_append, lX1.out, lY1.out] at h12
          refine (HIH.out W (P ++ Z1) X2 Y2 R mid E b (HEW.out W h2) (by simpa using h1) S1.out.2.1 S1.out.2.2.2 (by
            have := HN2.out
            have h13 := lX1.out
            have h14 := lY1.out
            simp only [List.length_append] at this ⊢
            omega) (by rw [List.length_append]; omega) (by omega) (by omega) (by omega) (by omega) (by omega) sX2.out sY2.out L2.out).mono ?_
          rintro e w' ⟨rfl, r1, r2⟩
          obtain ⟨Z2, q1, q2, q3⟩ := r1.out
          exact ⟨rfl, FF.out w' Z1 Z2 p1 s1 q2 q3 (by simpa using q1), h2.trans r2.out⟩
        clear FF hRq HIH lX1 lX2 lY1 lY2 eXX eYY sX1 sX2 sY1 sY2 L1 L2 S1 HN2 HEm HKW HEW HN HM HBB HK HE HA
        have hmE : m < E ↔ I < mid := by omega
        have hdE : mid < E ↔ I < m := by omega
        by_cases hβ : I < mid
        · by_cases hγ : a < I
          · by_cases hα : I < m
            · by_cases hδ : E < b
              · skip
                have z1 : (I : Int) < (m : Int) := by omega
                have z2 : (m : Int) < (E : Int) := by omega
                have z3 : (a : Int) < (I : Int) := by omega
                have z4 : (I : Int) < (mid : Int) := by omega
                have z5 : (mid : Int) < (E : Int) := by omega
                have z6 : (E : Int) < (b : Int) := by omega
                have c1 : Hid ((I < m ∧ m < E)) := by show _ ∧ _; omega
                have c2 : Hid ((a < I ∧ I < mid)) := by show _ ∧ _; omega
                have c3 : Hid ((mid < E ∧ E < b)) := by show _ ∧ _; omega
                clear hmE hdE
                go_wp2_with (first | (go_at_call 44; refine (ROT.out c1.out).mono ?_; rintro e w1 ⟨rfl, s1⟩; clear ROT) | (go_at_call 43; refine (MG1.out c2.out _ s1.out).mono ?_; rintro e w2 ⟨rfl, s2⟩; clear MG1) | (go_at_call 43; refine (MG2.out c3.out _ s2.out).mono ?_; rintro e w3 ⟨rfl, s3⟩))
                go_end0
                exact ⟨rfl, s3.out.1, s3.out.2⟩
              · skip
                have z1 : (I : Int) < (m : Int) := by omega
                have z2 : (m : Int) < (E : Int) := by omega
                have z3 : (a : Int) < (I : Int) := by omega
                have z4 : (I : Int) < (mid : Int) := by omega
                have z5 : (mid : Int) < (E : Int) := by omega
                have z6 : ¬ (E : Int) < (b : Int) := by omega
                have c1 : Hid ((I < m ∧ m < E)) := by show _ ∧ _; omega
                have c2 : Hid ((a < I ∧ I < mid)) := by show _ ∧ _; omega
                have c3 : Hid (¬ (mid < E ∧ E < b)) := by show ¬ _; omega
                clear hmE hdE
                go_wp2_with (first | (go_at_call 44; refine (ROT.out c1.out).mono ?_; rintro e w1 ⟨rfl, s1⟩; clear ROT) | (go_at_call 43; refine (MG1.out c2.out _ s1.out).mono ?_; rintro e w2 ⟨rfl, s2⟩; clear MG1))
                go_end0
                exact ⟨rfl, (ST2.out c3.out _ s2.out).1, (ST2.out c3.out _ s2.out).2⟩
            · have hδ : E < b := by omega
              have z1 : ¬ (I : Int) < (m : Int) := by omega
              have z2 : (m : Int) < (E : Int) := by omega
              have z3 : (a : Int) < (I : Int) := by omega
              have z4 : (I : Int) < (mid : Int) := by omega
              have z5 : ¬ (mid : Int) < (E : Int) := by omega
              have z6 : (E : Int) < (b : Int) := by omega
              have c1 : Hid (¬ (I < m ∧ m < E)) := by show ¬ _; omega
              have c2 : Hid ((a < I ∧ I < mid)) := by show _ ∧ _; omega
              have c3 : Hid (¬ (mid < E ∧ E < b)) := by show ¬ _; omega
              clear hmE hdE
              have s1 : Hid (Stg wo wr B (P ++ (X1 ++ (Y1 ++ (X2 ++ (Y2 ++ R)))))) := ST0.out c1.out
              go_wp2_with (first | (go_at_call 43; refine (MG1.out c2.out _ s1.out).mono ?_; rintro e w2 ⟨rfl, s2⟩; clear MG1))
              go_end0
              exact ⟨rfl, (ST2.out c3.out _ s2.out).1, (ST2.out c3.out _ s2.out).2⟩
          · by_cases hα : I < m
            · by_cases hδ : E < b
              · skip
                have z1 : (I : Int) < (m : Int) := by omega
                have z2 : (m : Int) < (E : Int) := by omega
                have z3 : ¬ (a : Int) < (I : Int) := by omega
                have z4 : (I : Int) < (mid : Int) := by omega
                have z5 : (mid : Int) < (E : Int) := by omega
                have z6 : (E : Int) < (b : Int) := by omega
                have c1 : Hid ((I < m ∧ m < E)) := by show _ ∧ _; omega
                have c2 : Hid (¬ (a < I ∧ I < mid)) := by show ¬ _; omega
                have c3 : Hid ((mid < E ∧ E < b)) := by show _ ∧ _; omega
                clear hmE hdE
                go_wp2_with (first | (go_at_call 44; refine (ROT.out c1.out).mono ?_; rintro e w1 ⟨rfl, s1⟩; clear ROT) | (go_at_call 43; refine (MG2.out c3.out _ (ST1.out c2.out _ s1.out)).mono ?_; rintro e w3 ⟨rfl, s3⟩))
                go_end0
                exact ⟨rfl, s3.out.1, s3.out.2⟩
              · skip
                have z1 : (I : Int) < (m : Int) := by omega
                have z2 : (m : Int) < (E : Int) := by omega
                have z3 : ¬ (a : Int) < (I : Int) := by omega
                have z4 : (I : Int) < (mid : Int) := by omega
                have z5 : (mid : Int) < (E : Int) := by omega
                have z6 : ¬ (E : Int) < (b : Int) := by omega
                have c1 : Hid ((I < m ∧ m < E)) := by show _ ∧ _; omega
                have c2 : Hid (¬ (a < I ∧ I < mid)) := by show ¬ _; omega
                have c3 : Hid (¬ (mid < E ∧ E < b)) := by show ¬ _; omega
                clear hmE hdE
                go_wp2_with (first | (go_at_call 44; refine (ROT.out c1.out).mono ?_; rintro e w1 ⟨rfl, s1⟩; clear ROT))
                go_end0
                exact ⟨rfl, (ST2.out c3.out _ (ST1.out c2.out _ s1.out)).1, (ST2.out c3.out _ (ST1.out c2.out _ s1.out)).2⟩
            · have hδ : E < b := by omega
              have z1 : ¬ (I : Int) < (m : Int) := by omega
              have z2 : (m : Int) < (E : Int) := by omega
              have z3 : ¬ (a : Int) < (I : Int) := by omega
              have z4 : (I : Int) < (mid : Int) := by omega
              have z5 : ¬ (mid : Int) < (E : Int) := by omega
              have z6 : (E : Int) < (b : Int) := by omega
              have c1 : Hid (¬ (I < m ∧ m < E)) := by show ¬ _; omega
              have c2 : Hid (¬ (a < I ∧ I < mid)) := by show ¬ _; omega
              have c3 : Hid (¬ (mid < E ∧ E < b)) := by show ¬ _; omega
              clear hmE hdE
              have s1 : Hid (Stg wo wr B (P ++ (X1 ++ (Y1 ++ (X2 ++ (Y2 ++ R)))))) := ST0.out c1.out
              go_wp2_with (fail)
              go_end0
              exact ⟨rfl, (ST2.out c3.out _ (ST1.out c2.out _ s1.out)).1, (ST2.out c3.out _ (ST1.out c2.out _ s1.out)).2⟩
        · have hγ : a < I := by omega
          skip
          by_cases hα : I < m
          · by_cases hδ : E < b
            · skip
              have z1 : (I : Int) < (m : Int) := by omega
              have z2 : ¬ (m : Int) < (E : Int) := by omega
              have z3 : (a : Int) < (I : Int) := by omega
              have z4 : ¬ (I : Int) < (mid : Int) := by omega
              have z5 : (mid : Int) < (E : Int) := by omega
              have z6 : (E : Int) < (b : Int) := by omega
              have c1 : Hid (¬ (I < m ∧ m < E)) := by show ¬ _; omega
              have c2 : Hid (¬ (a < I ∧ I < mid)) := by show ¬ _; omega
              have c3 : Hid ((mid < E ∧ E < b)) := by show _ ∧ _; omega
              clear hmE hdE
              have s1 : Hid (Stg wo wr B (P ++ (X1 ++ (Y1 ++ (X2 ++ (Y2 ++ R)))))) := ST0.out c1.out
              go_wp2_with (first | (go_at_call 43; refine (MG2.out c3.out _ (ST1.out c2.out _ s1.out)).mono ?_; rintro e w3 ⟨rfl, s3⟩))
              go_end0
              exact ⟨rfl, s3.out.1, s3.out.2⟩
            · skip
              have z1 : (I : Int) < (m : Int) := by omega
              have z2 : ¬ (m : Int) < (E : Int) := by omega
              have z3 : (a : Int) < (I : Int) := by omega
              have z4 : ¬ (I : Int) < (mid : Int) := by omega
              have z5 : (mid : Int) < (E : Int) := by omega
              have z6 : ¬ (E : Int) < (b : Int) := by omega
              have c1 : Hid (¬ (I < m ∧ m < E)) := by show ¬ _; omega
              have c2 : Hid (¬ (a < I ∧ I < mid)) := by show ¬ _; omega
              have c3 : Hid (¬ (mid < E ∧ E < b)) := by show ¬ _; omega
              clear hmE hdE
              have s1 : Hid (Stg wo wr B (P ++ (X1 ++ (Y1 ++ (X2 ++ (Y2 ++ R)))))) := ST0.out c1.out
              go_wp2_with (fail)
              go_end0
              exact ⟨rfl, (ST2.out c3.out _ (ST1.out c2.out _ s1.out)).1, (ST2.out c3.out _ (ST1.out c2.out _ s1.out)).2⟩
          · have hδ : E < b := by omega
            have z1 : ¬ (I : Int) < (m : Int) := by omega
            have z2 : ¬ (m : Int) < (E : Int) := by omega
            have z3 : (a : Int) < (I : Int) := by omega
            have z4 : ¬ (I : Int) < (mid : Int) := by omega
            have z5 : ¬ (mid : Int) < (E : Int) := by omega
            have z6 : (E : Int) < (b : Int) := by omega
            have c1 : Hid (¬ (I < m ∧ m < E)) := by show ¬ _; omega
            have c2 : Hid (¬ (a < I ∧ I < mid)) := by show ¬ _; omega
            have c3 : Hid (¬ (mid < E ∧ E < b)) := by show ¬ _; omega
            clear hmE hdE
            have s1 : Hid (Stg wo wr B (P ++ (X1 ++ (Y1 ++ (X2 ++ (Y2 ++ R)))))) := ST0.out c1.out
            go_wp2_with (fail)
            go_end0
            exact ⟨rfl, (ST2.out c3.out _ (ST1.out c2.out _ s1.out)).1, (ST2.out c3.out _ (ST1.out c2.out _ s1.out)).2⟩

end Go.Proofs.Ytkccdhidmihekaa
