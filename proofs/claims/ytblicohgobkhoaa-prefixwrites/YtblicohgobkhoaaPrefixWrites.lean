/-
  For any code and any symbols the program tells their words, or what is wrong, as the document does: PrefixWrites returns true for every list of lists of bits and every list of numbers, and changes nothing.
-/
import Derived.Test.YtblicohgobkhoaaOpen
import Derived.Test.YtblicohgobkhoaaWrite2
namespace Go.Proofs.Ytblicohgobkhoaa
open Go.ChangeShapes Go.WideShapes Go.ChangeAt Go.RowKit Go.Deep
set_option linter.unusedVariables false

theorem anyTake_succ (p : Int → Bool) (z : List Int) (k : Nat) (hk : k < z.length) : (z.take (k + 1)).any p = ((z.take k).any p || p z[k]) := by
  rw [List.take_succ_eq_append_getElem hk, List.any_append]
  simp

def two : Bool → Int
  | true => 2
  | false => 0
theorem two_true : two true = 2 := rfl
theorem two_false : two false = 0 := rfl

set_option maxHeartbeats 1000000 in
theorem prefixWrites_walk (a : Option Addr) (c : Nat) (g : List Wd) (z : Nm) (w : World) (hg : Wds w a c g) (hz : Nums w z) :
    Calls Try.prog 5 #[.slice a g.length c, z.v] w fun e w' => e = .returned (.bool true) ∧ Ext w w' := by
  have h13 := write_any a c g z w hg hz
  have H10 : Hid (∀ W, Ext w W → Calls Try.prog 10 #[.slice a g.length c] W fun e w' => e = .returned (.int .i64 (erl g)) ∧ w' = W) := fun W e => codeCheck_any a c g W (hg.ext e)
  have H15 : Hid (Fits g z.z → ∀ W, Ext w W → Calls Try.prog 15 #[.slice a g.length c, z.v] W fun e w' => (∃ x : Wd, e = .returned x.v ∧ x.l = written g z.z ∧ Bits w' x) ∧ Ext W w') :=
    fun hf W e => written_any a c g z W (hg.ext e) (hz.ext e) hf
  have H14 : Hid (∀ (x y : Wd) (W : World), Bits W x → Bits W y → Calls Try.prog 14 #[x.v, y.v] W fun e w' => e = .returned (.bool (x.l == y.l)) ∧ Qt W w') := fun x y W hx hy => bools_any x y W hx hy
  obtain ⟨k1, k2, _, zb, zo, k4, k5⟩ := hz
  obtain ⟨za, zc, zz⟩ := z
  simp only [Nm.v] at *
  have K5 : Hid (∀ i (h : i < zz.length), w.cell? ⟨zb, zo + i, none⟩ = some (.int .i64 zz[i])) := fun i h => by
    have := k5 i h
    rwa [List.getD_eq_getElem?_getD, List.getElem?_eq_getElem h] at this
  unfold maxLen at k2
  clear k5 hg
  obtain ⟨n, hn⟩ : ∃ n, g.length = n := ⟨_, rfl⟩
  obtain ⟨m, hm⟩ : ∃ m, zz.length = m := ⟨_, rfl⟩
  have HN : Hid (g.length = n) := hn
  have HM : Hid (zz.length = m) := hm
  rw [hn] at h13 H10 H15 ⊢
  rw [hm] at k1 k4 h13 H15 ⊢
  have bad : wer g zz = 1 → wout g zz = [] := fun h => wout_bad (by rw [h]; decide)
  have split : (wer g zz = 1 ∧ (erl g = 1 ∨ (erl g = 0 ∧ 64 < m))) ∨ (erl g = 0 ∧ m ≤ 64) := by
    rcases erl_cases g with he | he
    · exact Or.inl ⟨wer_large he, Or.inl he⟩
    · by_cases h : 64 < m
      · exact Or.inl ⟨wer_long he (by omega), Or.inr ⟨he, h⟩⟩
      · exact Or.inr ⟨he, by omega⟩
  rcases split with ⟨hw, hx⟩ | ⟨he, hle⟩
  · rw [hw, bad hw] at h13
    clear bad hw hn hm H15 H14
    rcases hx with he | ⟨he, h64⟩
    all_goals
      rw [he] at H10
      clear he
      try have h64' : (64 : Int) < (m : Int) := by omega
      go_enter Try.func5, Try.ntmps5
      go_wp2_with fail
      refine h13.mono ?_
      rintro e w1 ⟨⟨⟨xa, xc, xl⟩, rfl, hl, hbx⟩, hb⟩
      simp only at hl
      subst hl
      simp only [Wd.v, List.length_nil]
      go_wp2_with fail
      refine (H10.out w1 hb).mono ?_
      rintro e w2 ⟨rfl, rfl⟩
      go_wp2
      go_loopg [7, 9, 27] m (fun gg x _ s wr => wr = w2 ∧ x = .int .i64 1 ∧ ∃ k : Nat, k ≤ m ∧ m - k ≤ gg ∧ s = .int .i64 k)
      case atStart => exact ⟨rfl, rfl, 0, Nat.zero_le _, by omega, rfl⟩
      case round =>
        obtain ⟨rfl, rfl, k, hk, hgg, rfl⟩ := hrel
        by_cases hlt : k < m
        · have hltz : (k : Int) < (m : Int) := by omega
          obtain rfl := k4 (by omega)
          have e1 := hb.cell (K5.out k (by rw [HM.out]; exact hlt))
          go_wp2
          go_roundg (m - (k + 1))
          case measure => omega
          case rel => exact ⟨rfl, rfl, k + 1, by omega, by omega, by go_num⟩
        · go_wp2
          go_ret
          exact ⟨rfl, hb⟩
  · have hwer : wer g zz = two (zz.any (wordless n)) := by
      cases ha : zz.any (wordless n) with
      | true => rw [wer_arg he (by omega) (by rw [hn]; exact ha)]; rfl
      | false => rw [wer_ok he (by omega) (by rw [hn]; exact ha)]; rfl
    have hfit : Hid (zz.any (wordless n) = false → Fits g zz) := fun h => fits_of he (by omega) (by rw [hn]; exact h)
    have hout : Hid (zz.any (wordless n) = false → wout g zz = written g zz) := fun h => wout_ok (by rw [hwer, h]; rfl)
    have hnil : Hid (zz.any (wordless n) = true → wout g zz = []) := fun h => wout_bad (by rw [hwer, h]; decide)
    rw [hwer] at h13
    rw [he] at H10
    clear bad hwer he hn hm
    have h64' : ¬ (64 : Int) < (m : Int) := by omega
    obtain ⟨f, hf⟩ : ∃ f, f = zz.any (wordless n) := ⟨_, rfl⟩
    have HF : Hid (zz.any (wordless n) = f) := hf.symm
    rw [← hf] at h13 hfit hout hnil
    clear hf
    go_enter Try.func5, Try.ntmps5
    go_wp2_with fail
    refine h13.mono ?_
    rintro e w1 ⟨⟨x, rfl, hl, hbx⟩, hb⟩
    have HL : Hid (x.l = wout g zz) := hl
    have HB : Hid (Bits w1 x) := hbx
    clear hl hbx
    simp only [Wd.v]
    go_wp2_with fail
    refine (H10.out w1 hb).mono ?_
    rintro e w2 ⟨rfl, rfl⟩
    go_wp2
    go_loopg [7, 9, 27] m (fun gg x _ s wr => wr = w2 ∧ ∃ k : Nat, k ≤ m ∧ m - k ≤ gg ∧ s = .int .i64 k ∧ ∃ r : Bool, x = .int .i64 (two r) ∧ Aside (r = (zz.take k).any (wordless n)))
    case atStart => exact ⟨rfl, 0, Nat.zero_le _, by omega, rfl, false, rfl, rfl⟩
    case round =>
      obtain ⟨rfl, k, hk, hgg, rfl, r, rfl, A⟩ := hrel
      by_cases hlt : k < m
      · have hltz : (k : Int) < (m : Int) := by omega
        obtain rfl := k4 (by omega)
        have hkl : k < zz.length := by rw [HM.out]; exact hlt
        have e1 := hb.cell (K5.out k hkl)
        have nx : Hid ((zz.take (k + 1)).any (wordless n) = (r || wordless n zz[k])) := by
          show _ = _
          rw [anyTake_succ _ _ _ hkl, A.out]
        generalize zz[k] = s at e1 nx
        cases r with
        | true =>
          have nx' : Hid (true = (zz.take (k + 1)).any (wordless n)) := by show _ = _; rw [nx.out]; rfl
          clear nx A
          simp only [two_true]
          go_wp2
          go_roundg (m - (k + 1))
          case measure => omega
          case rel => exact ⟨rfl, k + 1, by omega, by omega, by go_num, true, rfl, nx'.out⟩
        | false =>
          simp only [Bool.false_or] at nx
          simp only [two_false]
          by_cases hs0 : s < 0
          · have nx' : Hid (true = (zz.take (k + 1)).any (wordless n)) := by show _ = _; rw [nx.out]; simp [wordless, hs0]
            clear nx A
            go_wp2
            go_roundg (m - (k + 1))
            case measure => omega
            case rel => exact ⟨rfl, k + 1, by omega, by omega, by go_num, true, rfl, nx'.out⟩
          · by_cases hsn : (n : Int) ≤ s
            · have nx' : Hid (true = (zz.take (k + 1)).any (wordless n)) := by show _ = _; rw [nx.out]; simp [wordless, hsn]
              clear nx A
              go_wp2
              go_roundg (m - (k + 1))
              case measure => omega
              case rel => exact ⟨rfl, k + 1, by omega, by omega, by go_num, true, rfl, nx'.out⟩
            · have nx' : Hid (false = (zz.take (k + 1)).any (wordless n)) := by show _ = _; rw [nx.out]; simp [wordless, hs0, hsn]
              clear nx A
              go_wp2
              go_roundg (m - (k + 1))
              case measure => omega
              case rel => exact ⟨rfl, k + 1, by omega, by omega, by go_num, false, rfl, nx'.out⟩
      · have hrf : r = f := by
          rw [A.out, ← HF.out, List.take_of_length_le (by have := HM.out; omega)]
        subst hrf
        clear A
        cases r with
        | true =>
          have hx0 : x.l = [] := by rw [HL.out]; exact hnil.out rfl
          clear HL HB H14 H15 hfit hout hnil h13
          obtain ⟨xa, xc, xl⟩ := x
          simp only at hx0
          subst hx0
          simp only [two_true, List.length_nil]
          go_wp2
          go_ret
          exact ⟨rfl, hb⟩
        | false =>
          have HL2 : Hid (x.l = written g zz) := by show x.l = _; rw [HL.out]; exact hout.out rfl
          have H15' : Hid (∀ W, Ext w W → Calls Try.prog 15 #[.slice a n c, .slice za m zc] W fun e w' => (∃ x : Wd, e = .returned x.v ∧ x.l = written g zz ∧ Bits w' x) ∧ Ext W w') := H15.out (hfit.out rfl)
          clear HL H15 hfit hout hnil h13
          simp only [two_false]
          go_wp2_with fail
          refine (H15'.out wr hb).mono ?_
          rintro e w3 ⟨⟨y, rfl, hly, hby⟩, hb3⟩
          have HY : Hid (y.l = written g zz) := hly
          have c14 := H14.out x y w3 (HB.out.ext hb3) hby
          rw [show (x.l == y.l) = true from beq_iff_eq.2 (by rw [HL2.out, hly])] at c14
          clear hly
          simp only [Wd.v] at *
          go_wp2_with fail
          refine c14.mono ?_
          rintro e w4 ⟨rfl, hb4⟩
          go_wp2
          go_ret
          exact ⟨rfl, (hb.trans hb3).trans hb4.ext⟩

set_option maxRecDepth 100000 in
theorem prefixWrites_lifted (os : Os) (started : os.Started) (H : Type) (enc : TypeId × Value → H) :
    ReturnsInHanded {} Try.checked os 5 .any (Rows.prefixWritesSpec.pre6 enc Try.prog Try.f5 Rows.prefixWritesRow.domain false) (Rows.prefixWritesSpec.post enc Try.prog Try.f5 false true false false) := by
  refine returnsInHanded_of_change (C := Try.checked) own started (by kernel_rfl) Try.func5
    (ChangeSpec.witness6 (enc := enc) (C := Try.checked) false ⟨#[], #[.slice none 0 0, .slice none 0 0], []⟩ 8 (by kernel_rfl) (by kernel_rfl) (by kernel_rfl) (by kernel_rfl)) ?_
  intro W base args ds gs before hval0 hW _ _
  have hval : ∀ (j : Nat) t v, Try.f5.params[j]? = some t → args[j]? = some v → Value.okWide Try.prog W .any base t v := hval0
  have hW' := hW
  obtain ⟨p, q, hA0, hV, rfl, hfz, hnd⟩ := hW
  have hA : DataW.TrodAll enc Try.prog W 0 (fun _ => true) true Try.f5.params.toList args.toList ds p := hA0
  rw [Try.params5] at hA hval
  obtain ⟨v0, vs0, d0, ds0, p0, q0, hargs, rfl, rfl, h0, r0⟩ := trodAll_cons hA
  obtain ⟨v1, vs1, d1, ds1, p1, q1, rfl, rfl, rfl, h1, r1⟩ := trodAll_cons r0
  obtain ⟨rfl, rfl, rfl⟩ := trodAll_nil r1
  obtain rfl : args = #[v0, v1] := by cases args; simp_all
  obtain ⟨rfl, rfl⟩ := trodVars_none hV
  have lt0 : ∀ x ∈ p0, x.block < W.heap.size := by obtain ⟨m, hm⟩ := h0; exact DataW.trod_lt m _ _ _ hm
  obtain ⟨a0, c0, g0, rfl, w0⟩ := open_code (hval 0 22 v0 rfl rfl) h0
  have lt1 : ∀ x ∈ p1, x.block < W.heap.size := by obtain ⟨m, hm⟩ := h1; exact DataW.trod_lt m _ _ _ hm
  obtain ⟨x1, rfl, w1⟩ := open_syms (hval 1 28 v1 rfl rfl) h1
  clear hA0 hval0
  refine (prefixWrites_walk a0 c0 g0 x1 W w0 w1).mono fun e W' ⟨he, bel⟩ => ?_
  subst he
  exact ⟨_, rfl, _, _, _, [], _, [], hW', trodAll_mk1 (shut_bool Try.underlying4 _), (trodAll_cons_mk (Below.trod laidOut (by kernel_rfl) (of_decide_eq_true (by kernel_rfl)) h0 bel lt0) (trodAll_cons_mk (Below.trod laidOut (by kernel_rfl) (of_decide_eq_true (by kernel_rfl)) h1 bel lt1) trodAll_mk0)), rfl, bel.frame _, fun h => by cases h⟩

theorem prefixWrites_holds : Rows.PrefixWritesSaid :=
  OpenClaim.holds_of_wide 5 Try.f5 rfl rfl rfl rfl rfl rfl rfl ⟨rfl, rfl, rfl, rfl, rfl⟩ rfl rfl rfl rfl rfl (by kernel_rfl) Try.func5 (by kernel_rfl)
    (of_decide_eq_true (by kernel_rfl)) (by unfold Func.isWrapper; rw [if_neg (of_decide_eq_false (by kernel_rfl))]; exact ⟨rfl, rfl⟩)
    (fun os started H enc _ => prefixWrites_lifted os started H enc)

#print axioms prefixWrites_holds

end Go.Proofs.Ytblicohgobkhoaa
