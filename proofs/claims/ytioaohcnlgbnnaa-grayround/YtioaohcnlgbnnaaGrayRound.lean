/-
  DE BRUIJN, MARTIN: of the bits that come round each word of so many stands once in a row, going round: GrayRound returns true for every number, and changes nothing.
-/
import Derived.Test.YtioaohcnlgbnnaaOpen
import Derived.Test.YtioaohcnlgbnnaaRd
import Derived.ProofKit
namespace Go.Proofs.Ytioaohcnlgbnnaa
open Go.ChangeShapes Go.WideShapes Go.ChangeAt Go.RowKit Go.Deep
set_option linter.unusedVariables false

theorem rl_len {n : Nat} : (rl n).length = 2 ^ n := by
  have : n < 2 ^ n := Nat.lt_two_pow_self
  show (rs n (2 ^ n - n)).2.2.length = _
  rw [rs_len]
  omega
theorem once {n : Nat} (h0 : 1 ≤ n) (h1 : n ≤ 6) : (wl n (rl n)).Nodup := by
  rcases (show n = 1 ∨ n = 2 ∨ n = 3 ∨ n = 4 ∨ n = 5 ∨ n = 6 by omega) with rfl | rfl | rfl | rfl | rfl | rfl
  · exact once_1
  · exact once_2
  · exact once_3
  · exact once_4
  · exact once_5
  · exact once_6
/-- The number of the word that begins at i, by its first k bits. -/
def vn (n i k : Nat) : Nat := wn (fun j => (rl n).getD j false) (2 ^ n) i k
theorem vn_ne {n i j : Nat} (h0 : 1 ≤ n) (h1 : n ≤ 6) (hij : j < i) (hi : i < 2 ^ n) : vn n j n ≠ vn n i n := by
  have hl : (wl n (rl n)).length = 2 ^ n := by unfold wl; rw [List.length_map, List.length_range]
  have h := List.pairwise_iff_getElem.1 (once h0 h1) j i (by omega) (by omega) hij
  unfold wl at h
  simpa [vn] using h
theorem vn_lt (n i : Nat) : ∀ k, vn n i k < 2 ^ k
  | 0 => by show 0 < 1; omega
  | k + 1 => by
    have h := vn_lt n i k
    show 2 * vn n i k + (if _ then 1 else 0) < _
    rw [Nat.pow_succ]
    split <;> omega
theorem vn_yes {n i k : Nat} (h : (rl n).getD ((i + k) % 2 ^ n) false = true) : vn n i (k + 1) = 2 * vn n i k + 1 := by
  show 2 * vn n i k + (if (rl n).getD ((i + k) % 2 ^ n) false = true then 1 else 0) = _
  rw [if_pos h]
theorem vn_no {n i k : Nat} (h : (rl n).getD ((i + k) % 2 ^ n) false = false) : vn n i (k + 1) = 2 * vn n i k := by
  show 2 * vn n i k + (if (rl n).getD ((i + k) % 2 ^ n) false = true then 1 else 0) = _
  rw [if_neg (by rw [h]; decide)]; rfl

/-- Which words came ahead of i. -/
def sn (V : Nat → Nat) (i x : Nat) : Bool := (List.range i).any (fun j => V j == x)
theorem sn_zero (V : Nat → Nat) (x : Nat) : sn V 0 x = false := rfl
theorem sn_next (V : Nat → Nat) (i x : Nat) : sn V (i + 1) x = if x = V i then true else sn V i x := by
  unfold sn
  rw [List.range_succ, List.any_append]
  by_cases h : x = V i
  · rw [if_pos h, h]; simp
  · rw [if_neg h]
    simp only [List.any_cons, List.any_nil, Bool.or_false]
    rw [beq_eq_false_iff_ne.2 (Ne.symm h), Bool.or_false]
theorem sn_no {V : Nat → Nat} {i : Nat} (h : ∀ j, j < i → V j ≠ V i) : sn V i (V i) = false := by
  unfold sn
  refine List.any_eq_false.2 (fun j hj => ?_)
  rw [beq_eq_false_iff_ne.2 (h j (List.mem_range.1 hj))]
  decide

set_option maxRecDepth 100000 in
theorem grayRound_bad (n : Int) (h : ¬ (1 ≤ n ∧ n ≤ 6)) (w : World) : Calls Try.prog 7 #[.int .i64 n] w fun e w' => e = .returned (.bool true) ∧ Ext w w' := by
  have c1 := Round_out n h w
  rcases Int.lt_or_le n 1 with h0 | h0
  · clear h
    go_enter Try.func7, Try.ntmps7
    go_wp2_with fail
    refine c1.mono ?_
    rintro e w1 ⟨rfl, rfl⟩
    clear c1
    go_wp2
    go_ret
    exact ⟨rfl, Ext.refl _⟩
  · have h1 : 6 < n := by omega
    clear h
    go_enter Try.func7, Try.ntmps7
    go_wp2_with fail
    refine c1.mono ?_
    rintro e w1 ⟨rfl, rfl⟩
    clear c1
    go_wp2
    go_ret
    exact ⟨rfl, Ext.refl _⟩

set_option maxRecDepth 100000 in
set_option maxHeartbeats 2000000 in
theorem grayRound_good (n : Nat) (hn1 : 1 ≤ n) (hn6 : n ≤ 6) (w : World) : Calls Try.prog 7 #[.int .i64 n] w fun e w' => e = .returned (.bool true) ∧ Ext w w' := by
  have c1 := Round_any n hn1 hn6 w
  have hM64 : 2 ^ n ≤ 2 ^ 6 := Nat.pow_le_pow_right (by omega) hn6
  have hM0 : 0 < 2 ^ n := Nat.two_pow_pos n
  obtain ⟨V, hV⟩ : ∃ V : Nat → Nat → Nat, ∀ i k, V i k = vn n i k := ⟨_, fun _ _ => rfl⟩
  obtain ⟨B, hB⟩ : ∃ B : Nat → Bool, ∀ j, B j = (rl n).getD j false := ⟨_, fun _ => rfl⟩
  obtain ⟨S, hS⟩ : ∃ S : Nat → Nat → Bool, ∀ i x, S i x = sn (fun j => vn n j n) i x := ⟨_, fun _ _ => rfl⟩
  have V0 : Hid (∀ i, V i 0 = 0) := fun i => by rw [hV]; rfl
  have VY : Hid (∀ i k, B ((i + k) % 2 ^ n) = true → V i (k + 1) = 2 * V i k + 1) := fun i k h => by rw [hB] at h; rw [hV, hV]; exact vn_yes h
  have VN : Hid (∀ i k, B ((i + k) % 2 ^ n) = false → V i (k + 1) = 2 * V i k) := fun i k h => by rw [hB] at h; rw [hV, hV]; exact vn_no h
  have VL : Hid (∀ i k, k ≤ n → V i k ≤ 64) := fun i k hk => by
    rw [hV]
    have h1 := vn_lt n i k
    have h2 : 2 ^ k ≤ 2 ^ 6 := Nat.pow_le_pow_right (by omega) (by omega)
    omega
  have VM : Hid (∀ i, V i n < 2 ^ n) := fun i => by rw [hV]; exact vn_lt n i n
  have S0 : Hid (∀ x, S 0 x = false) := fun x => by rw [hS]; rfl
  have SN : Hid (∀ i x, S (i + 1) x = if x = V i n then true else S i x) := fun i x => by rw [hS, hS, hV]; exact sn_next _ i x
  have SF : Hid (∀ i, i < 2 ^ n → S i (V i n) = false) := fun i hi => by
    rw [hS, hV]
    exact sn_no (V := fun j => vn n j n) (fun j hj => vn_ne hn1 hn6 hj hi)
  have CB : Hid (∀ A (W : World), RB W A (rl n) [] → ∀ j, j < 2 ^ n → W.cell? ⟨A, j, none⟩ = some (.bool (B j))) := fun A W h j hj => by
    rw [hB]
    exact h.cell j (by rw [rl_len]; exact hj)
  clear hV hB hS
  have MK : Hid (∀ w1 : World, ∃ W, (Instr.makeSlice 31 (.int .i64 ((2 ^ n : Nat) : Int)) (.int .i64 ((2 ^ n : Nat) : Int))).run Try.prog w1 = .ok (.slice (some ⟨w1.heap.size, 0, none⟩) (2 ^ n) (2 ^ n)) W ∧ Row W w1.heap.size 4 (bf (S 0) (2 ^ n)) ∧ Ext w1 W) := fun w1 => by
    obtain ⟨W, h1, h2, h3⟩ := made_room (2 ^ n) (2 ^ n) (Nat.le_refl _) (by omega) w1
    refine ⟨W, h1, ?_, h3⟩
    have e : bv (List.replicate (2 ^ n) false) ++ List.replicate (2 ^ n - 2 ^ n) (Value.bool false) = bf (S 0) (2 ^ n) := by
      rw [Nat.sub_self, List.replicate_zero, List.append_nil]
      unfold bv bf
      apply List.ext_getElem
      · simp
      · intro i h1 h2
        simp [S0.out]
    rw [← e]
    exact h2
  have h0 : ¬ (n : Int) < 1 := by omega
  have h6 : ¬ (6 : Int) < (n : Int) := by omega
  have pw : wrap64 (2 ^ n) = ((2 ^ n : Nat) : Int) := by
    rw [show (2 : Int) ^ n = ((2 ^ n : Nat) : Int) by simp]
    unfold wrap64; omega
  generalize rl n = R at *
  generalize 2 ^ n = M at *
  go_enter Try.func7, Try.ntmps7
  go_wp2_with fail
  refine c1.mono ?_
  rintro e w1 ⟨A, rfl, R1, hA, E1⟩
  obtain ⟨W2, mk, R2, E2⟩ := MK.out w1
  have X2 : Hid (Ext w W2) := E1.trans E2
  have RA : Hid (RB W2 A R []) := Row.ext R1 E2
  have hAB : Hid (A < w1.heap.size) := R1.lt
  have hwB : Hid (w.heap.size ≤ w1.heap.size) := E1.size
  have RS : Hid (Row W2 w1.heap.size 4 (bf (S 0) M)) := R2
  clear c1 MK R1 hA E1 R2 E2
  go_wp2
  generalize w1.heap.size = b at *
  go_loopg [6] M (fun gg s6 wr => ∃ i : Nat, i ≤ M ∧ M - i ≤ gg ∧ s6 = .int .i64 i ∧ Aside (RB wr A R []) ∧ Aside (Row wr b 4 (bf (S i) M)) ∧ Aside (Ext w wr))
  case atStart => exact ⟨0, by omega, by omega, rfl, RA.out, RS.out, X2⟩
  case round =>
    obtain ⟨i, hi, hgg, rfl, RA1, RS1, X1⟩ := hrel
    have RA' : Hid (RB wr A R []) := RA1.out
    have RS' : Hid (Row wr b 4 (bf (S i) M)) := RS1.out
    have X' : Hid (Ext w wr) := X1.out
    clear RA1 RS1 X1 RA RS X2 mk
    by_cases hlt : i < M
    · have hltz : (i : Int) < (M : Int) := by omega
      have v0 := V0.out i
      have CC : Hid (∀ j, j < M → wr.cell? ⟨A, j, none⟩ = some (.bool (B j))) := CB.out A wr RA'.out
      go_wp2
      go_loopg [7, 8] n (fun gg s7 s8 wr2 => ∃ k : Nat, k ≤ n ∧ n - k ≤ gg ∧ s8 = .int .i64 k ∧ s7 = .int .i64 (V i k : Nat) ∧ wr2 = wr)
      case atStart => exact ⟨0, by omega, by omega, rfl, by rw [v0]; rfl, rfl⟩
      case round =>
        obtain ⟨k, hk, hgk, rfl, rfl, rfl⟩ := hrel
        by_cases hkn : k < n
        · have hknz : (k : Int) < (n : Int) := by omega
          have hj : (i + k) % M < M := Nat.mod_lt _ hM0
          have cj := CC.out _ hj
          have rm : Int.tmod ((i : Int) + (k : Int)) (M : Int) = ((i + k) % M : Nat) := by
            rw [show (i : Int) + (k : Int) = ((i + k : Nat) : Int) by omega, ← Int.ofNat_tmod]
          have vy := VY.out i k
          have vn := VN.out i k
          have vl := VL.out i k (by omega)
          have hjz : (((i + k) % M : Nat) : Int) < (M : Int) := by omega
          generalize (i + k) % M = j at *
          generalize hv2 : V i (k + 1) = v2 at *
          generalize V i k = v at *
          cases hb : B j
          · have e : Hid (v2 = 2 * v) := vn hb
            rw [hb] at cj
            clear vy vn V0 VY VN VL VM S0 SN SF CB v0
            go_wp2
            go_roundg (n - (k + 1))
            case measure => omega
            case rel => exact ⟨k + 1, by omega, by omega, by go_num, by rw [hv2, e.out]; go_num, rfl⟩
          · have e : Hid (v2 = 2 * v + 1) := vy hb
            rw [hb] at cj
            clear vy vn V0 VY VN VL VM S0 SN SF CB v0
            go_wp2
            go_roundg (n - (k + 1))
            case measure => omega
            case rel => exact ⟨k + 1, by omega, by omega, by go_num, by rw [hv2, e.out]; go_num, rfl⟩
        · obtain rfl : k = n := by omega
          have vm := VM.out i
          have e1 := RS'.out.cellF (V i k) vm
          rw [SF.out i hlt] at e1
          have f1 := Row.fr RS'.out (V i k)
          have R2 : Hid (Row (wr.setCell ⟨b, V i k, none⟩ (.bool true)) b 4 (bf (S (i + 1)) M)) := RS'.out.setF _ _ (fun x hx => by
            show Value.bool _ = _
            rw [SN.out]
            by_cases h : x = V i k
            · rw [if_pos h, if_pos h]
            · rw [if_neg h, if_neg h])
          have RA2 : Hid (RB (wr.setCell ⟨b, V i k, none⟩ (.bool true)) A R []) := Row.other RA'.out _ (Nat.ne_of_gt hAB.out) _
          have X2 : Hid (Ext w (wr.setCell ⟨b, V i k, none⟩ (.bool true))) := X'.out.setCell hwB.out _
          have vmz : (V i k : Int) < (M : Int) := by omega
          clear V0 VY VN VL VM S0 SN SF CB v0 CC RA' X' RS'
          generalize V i k = v at *
          go_wp2
          go_roundg (M - (i + 1))
          case measure => omega
          case rel => exact ⟨i + 1, by omega, by omega, by go_num, RA2.out, R2.out, X2.out⟩
    · obtain rfl : i = M := by omega
      clear V0 VY VN VL VM S0 SN SF CB
      go_wp2
      go_ret
      exact ⟨rfl, X'.out⟩

theorem grayRound_walk (n : Int) (w : World) : Calls Try.prog 7 #[.int .i64 n] w fun e w' => e = .returned (.bool true) ∧ Ext w w' := by
  by_cases h : 1 ≤ n ∧ n ≤ 6
  · obtain ⟨m, rfl⟩ : ∃ m : Nat, n = m := ⟨n.toNat, by omega⟩
    exact grayRound_good m (by omega) (by omega) w
  · exact grayRound_bad n h w

set_option maxRecDepth 100000 in
theorem grayRound_lifted (os : Os) (started : os.Started) (H : Type) (enc : TypeId × Value → H) :
    ReturnsInHanded {} Try.checked os 7 .any (Rows.grayRoundSpec.pre6 enc Try.prog Try.f7 Rows.grayRoundRow.domain false) (Rows.grayRoundSpec.post enc Try.prog Try.f7 false true false false) := by
  refine returnsInHanded_of_change (C := Try.checked) own started (by kernel_rfl) Try.func7
    (ChangeSpec.witness6 (enc := enc) (C := Try.checked) false ⟨#[], #[.int .i64 0], []⟩ 8 (by kernel_rfl) (by kernel_rfl) (by kernel_rfl) (by kernel_rfl)) ?_
  intro W base args ds gs before hval0 hW _ _
  have hval : ∀ (j : Nat) t v, Try.f7.params[j]? = some t → args[j]? = some v → Value.okWide Try.prog W .any base t v := hval0
  have hW' := hW
  obtain ⟨p, q, hA0, hV, rfl, hfz, hnd⟩ := hW
  have hA : DataW.TrodAll enc Try.prog W 0 (fun _ => true) true Try.f7.params.toList args.toList ds p := hA0
  rw [Try.params7] at hA hval
  obtain ⟨v0, vs0, d0, ds0, p0, q0, hargs, rfl, rfl, h0, r0⟩ := trodAll_cons hA
  obtain ⟨rfl, rfl, rfl⟩ := trodAll_nil r0
  obtain rfl : args = #[v0] := by cases args; simp_all
  obtain ⟨rfl, rfl⟩ := trodVars_none hV
  have lt0 : ∀ x ∈ p0, x.block < W.heap.size := by obtain ⟨m, hm⟩ := h0; exact DataW.trod_lt m _ _ _ hm
  obtain ⟨x0, rfl, -, -, wf0⟩ := open_int Try.underlying3 (hval 0 3 v0 rfl rfl) h0
  clear hA0 hval0
  refine (grayRound_walk x0 W).mono fun e W' ⟨he, bel⟩ => ?_
  subst he
  exact ⟨_, rfl, _, _, _, [], _, [], hW', trodAll_mk1 (shut_bool Try.underlying4 _), (trodAll_cons_mk (Below.trod laidOut (by kernel_rfl) (of_decide_eq_true (by kernel_rfl)) h0 bel lt0) trodAll_mk0), rfl, bel.frame _, fun h => by cases h⟩

theorem grayRound_holds : Rows.GrayRoundSaid :=
  OpenClaim.holds_of_wide 7 Try.f7 rfl rfl rfl rfl rfl rfl rfl ⟨rfl, rfl, rfl, rfl, rfl⟩ rfl rfl rfl rfl rfl (by kernel_rfl) Try.func7 (by kernel_rfl)
    (of_decide_eq_true (by kernel_rfl)) (by unfold Func.isWrapper; rw [if_neg (of_decide_eq_false (by kernel_rfl))]; exact ⟨rfl, rfl⟩)
    (fun os started H enc _ => grayRound_lifted os started H enc)

#print axioms grayRound_holds

end Go.Proofs.Ytioaohcnlgbnnaa
