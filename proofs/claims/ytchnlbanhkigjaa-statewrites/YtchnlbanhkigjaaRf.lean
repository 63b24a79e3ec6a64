/-
  quipuref.Owners, quipuref.Put, quipuref.Take over parts that may be.
-/
import Derived.Test.YtchnlbanhkigjaaFc
import Derived.Test.YtchnlbanhkigjaaFst
namespace Go.Proofs.Ytchnlbanhkigjaa
open Go.RowKit
set_option linter.unusedVariables false

theorem ol_step (p : List Nat) (k i : Nat) : ol p k ++ List.replicate i (k : Int) ++ [(k : Int)] = ol p k ++ List.replicate (i + 1) (k : Int) := by
  rw [List.append_assoc, ← List.replicate_succ']

theorem owners_any (b o n c : Nat) (p : List Nat) (w : World) (hn : p.length = n) (h8 : n ≤ 8) (h16 : p.sum ≤ 16) (h : Pa w b o p) :
    Calls Try.prog 20 #[.slice (some ⟨b, o, none⟩) n c] w fun e w' => ∃ v, e = .returned v ∧ OwnN w w' v (ol p n) := by
  have HA : Hid (∀ i, i < n → w.cell? ⟨b, o + i, none⟩ = some (.int .i64 (pt p i : Nat))) := fun i hi => h i (by omega)
  have PL : Hid (∀ i, pt p i ≤ 16) := fun i => Nat.le_trans (pt_le p i) h16
  have OL : Hid (∀ i, (ol p i).length ≤ 16) := fun i => by rw [ol_length]; have := fs_top p i; omega
  have ST : Hid (∀ k i, ol p k ++ List.replicate i (k : Int) ++ [(k : Int)] = ol p k ++ List.replicate (i + 1) (k : Int)) := ol_step p
  have ON : Hid (∀ k, ol p k ++ List.replicate (pt p k) (k : Int) = ol p (k + 1)) := fun k => rfl
  clear h hn
  go_enter Try.func20, Try.ntmps20
  go_wp2
  go_loopg [3, 9] n (fun gg s3 s wr => ∃ k : Nat, k ≤ n ∧ n - k ≤ gg ∧ s = .int .i64 k ∧ Aside (OwnN w wr s3 (ol p k)))
  case atStart => exact ⟨0, Nat.zero_le _, by omega, rfl, OwnN.nil (Ext.refl w)⟩
  case round =>
    obtain ⟨k, hk, hg, rfl, A⟩ := hrel
    by_cases hlt : k < n
    · have hltz : (k : Int) < (n : Int) := by omega
      have e1 := A.out.1.cell (HA.out k hlt)
      have hy := PL.out k
      have on : Hid (ol p k ++ List.replicate (pt p k) (k : Int) = ol p (k + 1)) := ON.out k
      have stp : Hid (∀ i, ol p k ++ List.replicate i (k : Int) ++ [(k : Int)] = ol p k ++ List.replicate (i + 1) (k : Int)) := ST.out k
      have oln : Hid ((ol p k).length ≤ 16) := OL.out k
      have A0 : Hid (OwnN w wr u3 (ol p k ++ List.replicate 0 (k : Int))) := by rw [List.replicate_zero, List.append_nil]; exact A.out
      clear A HA PL OL ST ON
      generalize pt p k = y at *
      go_wp2
      go_loopg [3, 6] y (fun gg s3 s wr => ∃ i : Nat, i ≤ y ∧ y - i ≤ gg ∧ s = .int .i64 i ∧ Aside (OwnN w wr s3 (ol p k ++ List.replicate i (k : Int))))
      case atStart => exact ⟨0, Nat.zero_le _, by omega, rfl, A0.out⟩
      case round =>
        obtain ⟨i, hi, hgi, rfl, B⟩ := hrel
        clear A0
        by_cases hil : i < y
        · have hiz : (i : Int) < (y : Int) := by omega
          have NO : Hid (OwnN w wr u3 (ol p k ++ List.replicate i (k : Int))) := B.out
          have NF : Hid (ol p k ++ List.replicate i (k : Int) ++ [(k : Int)] = ol p k ++ List.replicate (i + 1) (k : Int)) := stp.out i
          have hfl : Hid (((ol p k ++ List.replicate i (k : Int)).length + 1) * 8 ≤ 140737488355328) := by
            show _ ≤ _
            rw [List.length_append, List.length_replicate]
            have := oln.out
            omega
          clear B stp on oln
          go_wp2_with (at_builtin; refine wpList_appendNum rfl _ _ rfl w _ u3 (by rfl) _ NO.out (k : Int) (by rfl) hfl.out ?_; intro v' w2 O2; have O2' : Hid (OwnN w w2 v' (ol p k ++ List.replicate (i + 1) (k : Int))) := by (rw [← NF.out]; exact O2))
          go_roundg (y - (i + 1))
          case measure => omega
          case rel => exact ⟨i + 1, by omega, by omega, by go_num, O2'.out⟩
        · obtain rfl : i = y := by omega
          have F : Hid (OwnN w wr u3 (ol p (k + 1))) := by rw [← on.out]; exact B.out
          clear B stp on oln
          go_wp2
          go_roundg (n - (k + 1))
          case measure => omega
          case rel => exact ⟨k + 1, by omega, by omega, by go_num, F.out⟩
    · have hk' : k = n := by omega
      subst hk'
      have F : Hid (OwnN w wr u3 (ol p k)) := A.out
      clear A
      go_wp2
      go_ret
      exact ⟨_, rfl, F.out⟩

/-- Whose each number is, as the call made it. -/
theorem own_cells {w w' : World} {v : Value} {p : List Nat} (h : OwnN w w' v (ol p p.length)) (h1 : 1 ≤ p.sum) (h16 : p.sum ≤ 16) :
    ∃ B O C, v = .slice (some ⟨B, O, none⟩) p.sum C ∧ p.sum ≤ C ∧ C ≤ maxLen ∧ Ext w w' ∧ ∀ i, i < p.sum → w'.cell? ⟨B, O + i, none⟩ = some (.int .i64 (ow p i : Nat)) := by
  obtain ⟨y, rfl, hz, n1, n2, n0, B, O, n3, n4⟩ := h.nums
  have hl : y.z.length = p.sum := by rw [hz, ol_length, fs_all]
  refine ⟨B, O, y.c, ?_, by omega, n2, h.1, fun i hi => ?_⟩
  · rw [← hl, ← n3 (by omega)]
  · rw [n4 i (by omega), hz, ol_at p _ i (by rw [fs_all]; exact hi)]

theorem rput_any (b o n c : Nat) (p : List Nat) (x s : Nat) (w : World) (hn : p.length = n) (h8 : n ≤ 8) (h1 : 1 ≤ p.sum) (h16 : p.sum ≤ 16) (hx : x ≤ 1099511627776) (hs : s < n) (hk : 0 < pt p s) (h : Pa w b o p) :
    Calls Try.prog 11 #[.slice (some ⟨b, o, none⟩) n c, .int .i64 x, .int .i64 s] w fun e w' => e = .returned (.int .i64 (pu p x s : Nat)) ∧ Ext w w' := by
  have c1 := owners_any b o n c p w hn h8 h16 h
  have e0 := h s (by omega)
  have f1 := fs_le p s
  have f2 : x / pt p s ≤ x := Nat.div_le_self _ _
  have f3 : x % pt p s < pt p s := Nat.mod_lt _ hk
  have f4 : x / pt p s * p.sum ≤ x * 16 := Nat.mul_le_mul f2 h16
  have hpu : pu p x s = x / pt p s * p.sum + (fs p s + x % pt p s) := Nat.add_assoc _ _ _
  have hq : (x : Int).tdiv (pt p s : Nat) = ((x / pt p s : Nat) : Int) := by rw [Int.ofNat_tdiv]
  have hm : (x : Int).tmod (pt p s : Nat) = ((x % pt p s : Nat) : Int) := by rw [Int.ofNat_tmod]
  have hmul : ((x / pt p s : Nat) : Int) * (p.sum : Nat) = ((x / pt p s * p.sum : Nat) : Int) := by rw [Int.natCast_mul]
  have NO : Hid (∀ i, i < fs p s → ((ow p i : Int) == (s : Int)) = false) := fun i hi => by
    obtain ⟨_, g2, _⟩ := ow_spec p i (by omega)
    rw [beq_eq_false_iff_ne]
    intro e
    have e' : ow p i = s := by omega
    rw [e'] at g2
    omega
  have YES : Hid (∀ i, fs p s ≤ i → i < fs p s + pt p s → ow p i = s) := fun i h1 h2 => ow_of h1 h2
  have OC : Hid (∀ w' v, OwnN w w' v (ol p n) → ∃ B O C, v = .slice (some ⟨B, O, none⟩) p.sum C ∧ p.sum ≤ C ∧ C ≤ maxLen ∧ Ext w w' ∧ ∀ i, i < p.sum → w'.cell? ⟨B, O + i, none⟩ = some (.int .i64 (ow p i : Nat))) := fun w' v hv => own_cells (by rw [hn]; exact hv) h1 h16
  rw [hpu]
  clear hpu h hn
  generalize x / pt p s * p.sum = M at *
  generalize x / pt p s = q at *
  generalize x % pt p s = r at *
  generalize fs p s = f at *
  generalize pt p s = k at *
  generalize p.sum = T at *
  go_enter Try.func11, Try.ntmps11
  go_wp2_with fail
  refine c1.mono ?_
  rintro e w1 ⟨v, rfl, hO⟩
  obtain ⟨B, O, C, rfl, hC, hC2, he, hcells⟩ := OC.out w1 v hO
  have HC : Hid (∀ i, i < T → w1.cell? ⟨B, O + i, none⟩ = some (.int .i64 (ow p i : Nat))) := hcells
  have HE : Hid (Ext w w1) := he
  have e1 := he.cell e0
  unfold maxLen at hC2
  clear c1 OC hO hcells he e0
  go_wp2
  go_loopg [9, 23] (f + r) (fun gg s9 s23 wr => ∃ i l : Nat, i ≤ f + r ∧ f + r - i ≤ gg ∧ l = r - (i - f) ∧ s9 = .int .i64 l ∧ s23 = .int .i64 i ∧ wr = w1)
  case atStart => exact ⟨0, r, Nat.zero_le _, by omega, by omega, rfl, rfl, rfl⟩
  case round =>
    obtain ⟨i, l, hi, hg, hl, rfl, rfl, rfl⟩ := hrel
    have hiz : (i : Int) < (T : Int) := by omega
    have e2 := HC.out i (by omega)
    by_cases hif : i < f
    · have hne := NO.out i hif
      have hl' : Hid (l = r - (i + 1 - f)) := by show _ = _; omega
      clear NO YES HC hl
      generalize ow p i = y at *
      go_wp2
      go_roundg (f + r - (i + 1))
      case measure => omega
      case rel => exact ⟨i + 1, l, by omega, by omega, hl'.out, rfl, by go_num, rfl⟩
    · have hys := YES.out i (by omega) (by omega)
      rw [hys] at e2
      by_cases hir : i = f + r
      · have hl0 : l = 0 := by omega
        subst hl0
        have hiE : Hid (i = f + r) := hir
        clear NO YES HC hl hys hir
        go_wp2
        go_ret
        refine ⟨ret_int ?_, HE.out⟩
        rw [hiE.out]
        omega
      · have hl0 : ((l : Int) == 0) = false := by rw [beq_eq_false_iff_ne]; omega
        have hl1 : 1 ≤ l := by omega
        have hl2 : l ≤ 16 := by omega
        have hl' : Hid (l - 1 = r - (i + 1 - f)) := by show _ = _; omega
        clear NO YES HC hl hys
        go_wp2
        go_roundg (f + r - (i + 1))
        case measure => omega
        case rel => exact ⟨i + 1, l - 1, by omega, by omega, hl'.out, by go_num, by go_num, rfl⟩

theorem rtake_any (b o n c : Nat) (p : List Nat) (x : Nat) (w : World) (hn : p.length = n) (h8 : n ≤ 8) (h1 : 1 ≤ p.sum) (h16 : p.sum ≤ 16) (hx : x ≤ 1099511627776) (h : Pa w b o p) :
    Calls Try.prog 13 #[.slice (some ⟨b, o, none⟩) n c, .int .i64 x] w fun e w' => e = .returned (.tuple #[.int .i64 (tx p x : Nat), .int .i64 (ts p x : Nat)]) ∧ Ext w w' := by
  have c1 := owners_any b o n c p w hn h8 h16 h
  have hr := Nat.mod_lt x (show 0 < p.sum by omega)
  obtain ⟨g1, g2, g3⟩ := ow_spec p (x % p.sum) hr
  have et : ow p (x % p.sum) = ts p x := rfl
  rw [et] at g1 g2 g3
  have e0 := h (ts p x) g1
  have htx : tx p x = x / p.sum * pt p (ts p x) + (x % p.sum - fs p (ts p x)) := rfl
  have f2 : x / p.sum ≤ x := Nat.div_le_self _ _
  have f4 : x / p.sum * pt p (ts p x) ≤ x * 16 := Nat.mul_le_mul f2 (Nat.le_trans (pt_le p _) h16)
  have hq : (x : Int).tdiv (p.sum : Nat) = ((x / p.sum : Nat) : Int) := by rw [Int.ofNat_tdiv]
  have hm : (x : Int).tmod (p.sum : Nat) = ((x % p.sum : Nat) : Int) := by rw [Int.ofNat_tmod]
  have hmul : ((x / p.sum : Nat) : Int) * (pt p (ts p x) : Nat) = ((x / p.sum * pt p (ts p x) : Nat) : Int) := by rw [Int.natCast_mul]
  have NO : Hid (∀ i, i < fs p (ts p x) → ((ow p i : Int) == (ts p x : Int)) = false) := fun i hi => by
    obtain ⟨_, g2', _⟩ := ow_spec p i (by omega)
    rw [beq_eq_false_iff_ne]
    intro e
    have e' : ow p i = ts p x := by omega
    rw [e'] at g2'
    omega
  have YES : Hid (∀ i, fs p (ts p x) ≤ i → i < x % p.sum → ow p i = ts p x) := fun i h1 h2 => ow_of h1 (by omega)
  have OC : Hid (∀ w' v, OwnN w w' v (ol p n) → ∃ B O C, v = .slice (some ⟨B, O, none⟩) p.sum C ∧ p.sum ≤ C ∧ C ≤ maxLen ∧ Ext w w' ∧ ∀ i, i < p.sum → w'.cell? ⟨B, O + i, none⟩ = some (.int .i64 (ow p i : Nat))) := fun w' v hv => own_cells (by rw [hn]; exact hv) h1 h16
  have ET : Hid (ow p (x % p.sum) = ts p x) := et
  rw [htx]
  clear htx et h
  have hS : ts p x < n := by omega
  generalize ts p x = S at *
  generalize x / p.sum * pt p S = M at *
  generalize x / p.sum = q at *
  generalize x % p.sum = r at *
  generalize p.sum = T at *
  generalize fs p S = f at *
  generalize pt p S = k at *
  clear hn g1
  go_enter Try.func13, Try.ntmps13
  go_wp2_with fail
  refine c1.mono ?_
  rintro e w1 ⟨v, rfl, hO⟩
  obtain ⟨B, O, C, rfl, hC, hC2, he, hcells⟩ := OC.out w1 v hO
  have HC : Hid (∀ i, i < T → w1.cell? ⟨B, O + i, none⟩ = some (.int .i64 (ow p i : Nat))) := hcells
  have HE : Hid (Ext w w1) := he
  have e1 := he.cell e0
  have e2 := hcells r hr
  rw [ET.out] at e2
  unfold maxLen at hC2
  clear c1 OC hO hcells he e0 ET
  go_wp2
  go_loopg [10, 28] r (fun gg s10 s28 wr => ∃ i l : Nat, i ≤ r ∧ r - i ≤ gg ∧ l = i - f ∧ s10 = .int .i64 l ∧ s28 = .int .i64 i ∧ wr = w1)
  case atStart => exact ⟨0, 0, Nat.zero_le _, by omega, by omega, rfl, rfl, rfl⟩
  case round =>
    obtain ⟨i, l, hi, hg, hl, rfl, rfl, rfl⟩ := hrel
    by_cases hlt : i < r
    · have hltz : (i : Int) < (r : Int) := by omega
      have e3 := HC.out i (by omega)
      by_cases hif : i < f
      · have hne := NO.out i hif
        have hl' : Hid (l = i + 1 - f) := by show _ = _; omega
        clear NO YES HC hl
        generalize ow p i = y at *
        go_wp2
        go_roundg (r - (i + 1))
        case measure => omega
        case rel => exact ⟨i + 1, l, by omega, by omega, hl'.out, rfl, by go_num, rfl⟩
      · have hys := YES.out i (by omega) (by omega)
        rw [hys] at e3
        have hl' : Hid (l + 1 = i + 1 - f) := by show _ = _; omega
        have hl2 : l ≤ 16 := by omega
        clear NO YES HC hys
        go_wp2
        go_roundg (r - (i + 1))
        case measure => omega
        case rel => exact ⟨i + 1, l + 1, by omega, by omega, hl'.out, by go_num, by go_num, rfl⟩
    · obtain rfl : i = r := by omega
      have HL : Hid (l = i - f) := hl
      have hl2 : l ≤ 16 := by omega
      clear NO YES HC hl
      go_wp2
      go_quiet (fail)
      go_wp2
      go_ret2
      refine ⟨ret_two ?_ rfl, ?_⟩
      · rw [HL.out]
        omega
      · exact HE.out.drewN _

end Go.Proofs.Ytchnlbanhkigjaa
