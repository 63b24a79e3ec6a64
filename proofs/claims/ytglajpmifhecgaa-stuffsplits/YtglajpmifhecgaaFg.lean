/-
  quipuref.Splits.
-/
import Derived.Test.YtglajpmifhecgaaFf
namespace Go.Proofs.Ytglajpmifhecgaa
open Go.RowKit
set_option linter.unusedVariables false

theorem exec_mid {o : Oper} {ev : Operand → Value} {W : World} {a : Option Addr} {n c : Nat} {lo hi u : Value} (xo ko jo : Operand) (ho : o.op = .slice 22 xo (some ko) (some jo) none) (hx : ev xo = .slice a n c) (hk : ev ko = lo) (hj : ev jo = hi)
    (hs : (Instr.slice 22 (.slice a n c) (some lo) (some hi) none).run Try.prog W = .ok u W) : (execOp ev o).run Try.prog W = .ok (.value u) W := by
  unfold execOp
  simp only [ho, Sem.run_bind, Option.map, hx, hk, hj, run_sliceAt_slice W 22 _ _ _ _ elem22, hs, Result.andThen_ok, Sem.run_pure]

set_option maxHeartbeats 4000000 in
/-- quipuref.Splits. -/
theorem refSplits_any (x : Wd) (hl : x.l.length ≤ 1000) (w : World) (hx : Bits w x) : Calls Try.prog 17 #[x.v] w fun e w' => Ext w w' ∧ ∃ v b, e = .returned (.tuple #[v, .bool b]) ∧ (b = false → Nil x.l) ∧ (b = true → ∃ X, x.l = frm (X.map (·.l)) ∧ large (X.map (·.l)) = false ∧ OwnT w w' v X) := by
  obtain ⟨a, c, l⟩ := x
  have XB : Hid (Bits w ⟨a, c, l⟩) := hx
  have hn1 := hx.1
  have hn2 := hx.2.1
  simp only at hl hn1 hn2 ⊢
  simp only [Wd.v]
  obtain ⟨n, hn⟩ : ∃ n, l.length = n := ⟨_, rfl⟩
  obtain ⟨F, hF⟩ : ∃ F : Nat → Prop, ∀ i, F i ↔ flAt l i := ⟨_, fun _ => Iff.rfl⟩
  obtain ⟨S, hS⟩ : ∃ S : Nat → Nat → List (List Bool) → Prop, ∀ i s T, S i s T ↔ At l i s T := ⟨_, fun _ _ _ => Iff.rfl⟩
  obtain ⟨M, hM⟩ : ∃ M : Prop, M ↔ Nil l := ⟨_, Iff.rfl⟩
  have MN : Hid (M → Nil l) := hM.1
  have MID : Hid (∀ i : Nat, i + 8 ≤ n → ∃ ai ci, (∀ V, (Instr.slice 22 (.slice a n c) (some (.int .i64 i)) (some (.int .i64 ((i : Int) + 8))) none).run Try.prog V = .ok (.slice ai 8 ci) V) ∧
      Hid (∀ W fa fc, Ext w W → Bits W ⟨fa, fc, fl⟩ → ∃ p, (p = true ↔ F i) ∧ Calls Try.prog 10 #[.slice ai 8 ci, .slice fa 8 fc] W fun e w' => e = .returned (.bool p) ∧ Qt W w')) := fun i hi => by
    have e : ((l.drop i).take 8).length = 8 := by rw [List.length_take, List.length_drop, hn]; omega
    refine ⟨(((⟨a, c, l⟩ : Wd).back i).front 8).a, (((⟨a, c, l⟩ : Wd).back i).front 8).c, fun V => ?_, fun W fa fc E hf => ⟨(l.drop i).take 8 == fl, ?_, ?_⟩⟩
    · have := slice_mid XB.out (i := i) (n := 8) (by show i + 8 ≤ l.length; omega) V
      rw [show (((⟨a, c, l⟩ : Wd).back i).front 8).v = .slice (((⟨a, c, l⟩ : Wd).back i).front 8).a ((l.drop i).take 8).length (((⟨a, c, l⟩ : Wd).back i).front 8).c from rfl, e, Wd.v] at this
      simp only [hn] at this
      exact this
    · rw [hF, flAt_iff, Bool.beq_comm]
    · have := bools_any (((⟨a, c, l⟩ : Wd).back i).front 8) ⟨fa, fc, fl⟩ W (((XB.out.back (k := i) (by show i ≤ l.length; omega)).front 8).ext E) hf
      rw [show (((⟨a, c, l⟩ : Wd).back i).front 8).v = .slice (((⟨a, c, l⟩ : Wd).back i).front 8).a ((l.drop i).take 8).length (((⟨a, c, l⟩ : Wd).back i).front 8).c from rfl, e] at this
      exact this
  have PART : Hid (∀ s i : Nat, s + 8 ≤ i → i ≤ n → ∃ ap cp, (∀ V, (Instr.slice 22 (.slice a n c) (some (.int .i64 ((s : Int) + 8))) (some (.int .i64 (i : Int))) none).run Try.prog V = .ok (.slice ap (i - (s + 8)) cp) V) ∧
      Hid (∀ W, Ext w W → Calls Try.prog 13 #[.slice ap (i - (s + 8)) cp] W fun e w' => Ext W w' ∧ ((br 0 ((l.drop (s + 8)).take (i - (s + 8))) = none ∧ e = .returned (.tuple #[.slice none 0 0, .bool false])) ∨ ∃ t v, br 0 ((l.drop (s + 8)).take (i - (s + 8))) = some t ∧ e = .returned (.tuple #[v, .bool true]) ∧ OwnB W w' v t))) := fun s i hs hi => by
    have e : ((l.drop (s + 8)).take (i - (s + 8))).length = i - (s + 8) := by rw [List.length_take, List.length_drop, hn]; omega
    refine ⟨(((⟨a, c, l⟩ : Wd).back (s + 8)).front (i - (s + 8))).a, (((⟨a, c, l⟩ : Wd).back (s + 8)).front (i - (s + 8))).c, fun V => ?_, fun W E => ?_⟩
    · have := slice_mid XB.out (i := s + 8) (n := i - (s + 8)) (by show s + 8 + (i - (s + 8)) ≤ l.length; omega) V
      rw [show (((⟨a, c, l⟩ : Wd).back (s + 8)).front (i - (s + 8))).v = .slice (((⟨a, c, l⟩ : Wd).back (s + 8)).front (i - (s + 8))).a ((l.drop (s + 8)).take (i - (s + 8))).length (((⟨a, c, l⟩ : Wd).back (s + 8)).front (i - (s + 8))).c from rfl, e, Wd.v] at this
      simp only [hn] at this
      rw [show ((s + 8 : Nat) : Int) + ((i - (s + 8) : Nat) : Int) = (i : Int) by omega] at this
      exact this
    · have := refBared_any (((⟨a, c, l⟩ : Wd).back (s + 8)).front (i - (s + 8))) (by show ((l.drop (s + 8)).take (i - (s + 8))).length ≤ _; rw [e]; omega) W (((XB.out.back (k := s + 8) (by show s + 8 ≤ l.length; omega)).front _).ext E)
      rw [show (((⟨a, c, l⟩ : Wd).back (s + 8)).front (i - (s + 8))).v = .slice (((⟨a, c, l⟩ : Wd).back (s + 8)).front (i - (s + 8))).a ((l.drop (s + 8)).take (i - (s + 8))).length (((⟨a, c, l⟩ : Wd).back (s + 8)).front (i - (s + 8))).c from rfl, e] at this
      exact this
  have AS : Hid (F 0 → S 1 0 []) := fun h => by rw [hS]; exact at_first ((hF 0).1 h)
  have AF : Hid (¬ F 0 → M) := fun h => hM.2 (nil_first (fun h2 => h ((hF 0).2 h2)))
  have FL : Hid (∀ i, F i → i + 8 ≤ n) := fun i h => by have := flAt_le ((hF i).1 h); omega
  have SN : Hid (∀ i s T, S i s T → ¬ F i ∨ i < s + 8 → S (i + 1) s T) := fun i s T h hn => by rw [hS] at h ⊢; rw [hF] at hn; exact at_next h hn
  have SF : Hid (∀ i s T, S i s T → F i → s + 8 ≤ i → br 0 ((l.drop (s + 8)).take (i - (s + 8))) = none → M) := fun i s T h hf hs hb => hM.2 (at_bad ((hS _ _ _).1 h) ((hF i).1 hf) hs hb)
  have SL : Hid (∀ i s T t, S i s T → F i → s + 8 ≤ i → br 0 ((l.drop (s + 8)).take (i - (s + 8))) = some t → 64 < t.length → M) := fun i s T t h hf hs hb ht => hM.2 (at_long ((hS _ _ _).1 h) ((hF i).1 hf) hs hb ht)
  have SS : Hid (∀ i s T t, S i s T → F i → s + 8 ≤ i → br 0 ((l.drop (s + 8)).take (i - (s + 8))) = some t → t.length ≤ 64 → S (i + 1) i (T ++ [t])) := fun i s T t h hf hs hb ht => (hS _ _ _).2 (at_more ((hS _ _ _).1 h) ((hF i).1 hf) hs hb ht)
  have S8 : Hid (∀ i s T, S i s T → 8 < T.length → M) := fun i s T h hT => hM.2 (at_many ((hS _ _ _).1 h) hT)
  have SE : Hid (∀ i s T, S i s T → n < i + 8 → l ≠ frm T → M) := fun i s T h hi hne => hM.2 (at_end ((hS _ _ _).1 h) (by omega) hne)
  have SB : Hid (∀ i s T, S i s T → T.length ≤ 1000 ∧ s < i ∧ (T.length ≤ 8 → large T = false)) := fun i s T h => by
    have h := (hS _ _ _).1 h
    have := found_len h.1
    exact ⟨by omega, h.2.2.1, fun h8 => at_fit h h8⟩
  have LN : Hid (l.length = n) := hn
  clear hx hF hS hM
  rw [hn] at hl hn1 ⊢
  clear hn
  unfold maxLen at hn2
  go_enter Try.func17, Try.ntmps17
  go_wp2
  go_loopg [4, 5, 6, 7, 8] n (fun gg s4 s5 s6 _ _ wr => ∃ (i : Nat) (X : List Wd) (sv : Value) (z : Int), i ≤ n ∧ n - i ≤ gg ∧ s6 = .int .i64 i ∧ sv = s4 ∧ s5 = .int .i64 z ∧ Aside (OwnT w wr sv X) ∧ ((z = -1 ∧ X = [] ∧ Hid (∀ j, j < i → ¬ F j)) ∨ ∃ s : Nat, z = (s : Int) ∧ Hid (S i s (X.map (·.l)))))
  case atStart => exact ⟨0, [], _, _, Nat.zero_le _, by omega, rfl, rfl, rfl, OwnT.nil (Ext.refl _), Or.inl ⟨rfl, rfl, fun j hj => absurd hj (Nat.not_lt_zero _)⟩⟩
  case round =>
    obtain ⟨i, X, s4, z, hi, hgg, rfl, rfl, rfl, OO, HZ⟩ := hrel
    have O0 : Hid (OwnT w wr s4 X) := OO.out
    clear OO
    by_cases hlt : i + 8 ≤ n
    · have hltz : (i : Int) + 8 ≤ (n : Int) := by omega
      have w8 : Hid (IntKind.i64.wrap ((i : Int) + 8) = (i : Int) + 8) := by show _ = _; rw [IntKind.wrap_i64]; omega
      have w9 : Hid (IntKind.i64.wrap ((i : Int) - 8) = (i : Int) - 8) := by show _ = _; rw [IntKind.wrap_i64]; omega
      obtain ⟨ai, ci, SI, CB⟩ := MID.out i hlt
      clear MID
      rcases HZ with ⟨rfl, rfl, HA⟩ | ⟨s, rfl, HS⟩
      · clear SN SF SL SS S8 SE SB PART
        go_wp2_with fail
        refine wp_region_mix (fun _ => True) 18 (by rfl) (by kernel_rfl) ?_
        have O1 : Hid (OwnT w wr.drew s4 []) := O0.out.mono ((Ext.refl wr).drewN 1)
        clear O0
        generalize wr.drew = W1 at *
        refine wpMix_take (v := .slice a n c) 0 (by rfl) (by kernel_rfl) ⟨by rfl, ?_⟩ ?_
        · rintro W hW
          go_simp
        refine wpMix_take (v := .int .i64 i) 1 (by rfl) (by kernel_rfl) ⟨by rfl, ?_⟩ ?_
        · rintro W hW
          go_simp
        refine wpMix_take (v := .int .i64 i) 2 (by rfl) (by kernel_rfl) ⟨by rfl, ?_⟩ ?_
        · rintro W hW
          go_simp
        refine wpMix_take (v := .int .i64 ((i : Int) + 8)) 3 (by rfl) (by kernel_rfl) ⟨by rfl, ?_⟩ ?_
        · rintro W hW
          have h8 := w8.out
          go_simp
        refine wpMix_take (v := .slice ai 8 ci) 4 (by rfl) (by kernel_rfl) ⟨by rfl, ?_⟩ ?_
        · rintro W hW
          exact exec_mid _ _ _ (by rfl) (by rfl) (by rfl) (by rfl) (SI W)
        refine wpMix_call 5 (w' := W1) 25 #[] (by kernel_rfl) trivial (by rfl) (by rfl) ?_ ?_
        · go_simp
        refine (refFlag_any W1).mono ?_
        rintro e W2 ⟨v, rfl, O⟩
        refine ⟨_, rfl, ?_⟩
        obtain ⟨⟨fa, fc, l5⟩, rfl, e5, hb5⟩ := O.bits
        simp only at e5
        subst e5
        have O2 : Hid (OwnT w W2 s4 []) := O1.out.mono O.1
        obtain ⟨p, hp, c10⟩ := CB.out W2 fa fc O2.out.ext hb5
        have HP : Hid (p = true ↔ F i) := hp
        clear O hb5 hp CB SI O1
        simp only [Wd.v, show fl.length = 8 from rfl]
        refine wpMix_call 6 (w' := W2) 10 #[.slice ai 8 ci, .slice fa 8 fc] (by kernel_rfl) trivial (by rfl) (by rfl) ?_ ?_
        · go_simp
        refine c10.mono ?_
        rintro e W4 ⟨rfl, Q4⟩
        refine ⟨_, rfl, ?_⟩
        have O4 : Hid (OwnT w W4 s4 []) := O2.out.mono Q4.ext
        clear c10 Q4 O2
        cases p
        · have NA : Hid (∀ j, j < i + 1 → ¬ F j) := fun j hj h => by
            rcases Nat.lt_succ_iff_lt_or_eq.1 hj with h' | rfl
            · exact HA.out j h' h
            · have := HP.out.2 h; cases this
          clear HP HA
          refine wpMix_take (v := .bool true) 7 (by rfl) (by kernel_rfl) ⟨by rfl, ?_⟩ ?_
          · rintro W hW
            go_simp
          refine wpMix_take (v := .bool true) 8 (by rfl) (by kernel_rfl) ⟨by rfl, ?_⟩ ?_
          · rintro W hW
            go_simp
          refine wpMix_pass 9 (by rfl) (by kernel_rfl) (by kernel_rfl) ?_
          refine wpMix_pass 10 (by rfl) (by kernel_rfl) (by kernel_rfl) ?_
          refine wpMix_pass 11 (by rfl) (by kernel_rfl) (by kernel_rfl) ?_
          refine wpMix_pass 12 (by rfl) (by kernel_rfl) (by kernel_rfl) ?_
          refine wpMix_pass 13 (by rfl) (by kernel_rfl) (by kernel_rfl) ?_
          refine wpMix_pass 14 (by rfl) (by kernel_rfl) (by kernel_rfl) ?_
          refine wpMix_pass 15 (by rfl) (by kernel_rfl) (by kernel_rfl) ?_
          refine wpMix_pass 16 (by rfl) (by kernel_rfl) (by kernel_rfl) ?_
          refine wpMix_lastv (v := .bool true) (w' := W4) 17 (by kernel_rfl) (by kernel_rfl) (by rfl) (by rfl) trivial ?_ trivial ?_
          · go_simp
          simp only [Act.put, List.setIfInBounds_toArray, List.set_cons_zero, List.set_cons_succ]
          go_wp2
          go_roundg (n - (i + 1))
          case measure => omega
          case rel => exact ⟨i + 1, [], _, -1, by omega, by omega, by go_num, rfl, rfl, O4.out, Or.inl ⟨rfl, rfl, NA.out⟩⟩
        · have FI : Hid (F i) := HP.out.1 rfl
          clear HP
          by_cases hi0 : i = 0
          · have NS : Hid (S (i + 1) i (([] : List Wd).map (·.l))) := by
              show S _ _ _
              rw [hi0]
              exact AS.out (by rw [← hi0]; exact FI.out)
            have hgt : (-1 : Int) > (i : Int) - 8 := by omega
            have hig : ¬ (i : Int) > 0 := by omega
            have hi9 : i ≤ 1000 := by omega
            clear hi0 HA FI AS AF FL
            refine wpMix_take (v := .bool false) 7 (by rfl) (by kernel_rfl) ⟨by rfl, ?_⟩ ?_
            · rintro W hW
              go_simp
            refine wpMix_take (v := .bool false) 8 (by rfl) (by kernel_rfl) ⟨by rfl, ?_⟩ ?_
            · rintro W hW
              go_simp
            refine wpMix_take (v := .int .i64 (-1)) 9 (by rfl) (by kernel_rfl) ⟨by kernel_rfl, ?_⟩ ?_
            · rintro W hW
              go_simp
            refine wpMix_take (v := .int .i64 i) 10 (by rfl) (by kernel_rfl) ⟨by kernel_rfl, ?_⟩ ?_
            · rintro W hW
              go_simp
            refine wpMix_take (v := .int .i64 ((i : Int) - 8)) 11 (by rfl) (by kernel_rfl) ⟨by kernel_rfl, ?_⟩ ?_
            · rintro W hW
              have h8 := w9.out
              go_simp
            refine wpMix_take (v := .bool true) 12 (by rfl) (by kernel_rfl) ⟨by kernel_rfl, ?_⟩ ?_
            · rintro W hW
              go_simp
            refine wpMix_take (v := .bool true) 13 (by rfl) (by kernel_rfl) ⟨by kernel_rfl, ?_⟩ ?_
            · rintro W hW
              go_simp
            refine wpMix_take (v := .int .i64 (-1)) 14 (by rfl) (by kernel_rfl) ⟨by kernel_rfl, ?_⟩ ?_
            · rintro W hW
              go_simp
            refine wpMix_take (v := .bool false) 15 (by rfl) (by kernel_rfl) ⟨by kernel_rfl, ?_⟩ ?_
            · rintro W hW
              go_simp
            refine wpMix_take (v := .bool false) 16 (by rfl) (by kernel_rfl) ⟨by kernel_rfl, ?_⟩ ?_
            · rintro W hW
              go_simp
            refine wpMix_lastv (v := .bool false) (w' := W4) 17 (by kernel_rfl) (by kernel_rfl) (by rfl) (by rfl) trivial ?_ trivial ?_
            · go_simp
            simp only [Act.put, List.setIfInBounds_toArray, List.set_cons_zero, List.set_cons_succ]
            go_wp2
            go_roundg (n - (i + 1))
            case measure => omega
            case rel => exact ⟨i + 1, [], _, (i : Int), by omega, by omega, by go_num, rfl, rfl, O4.out, Or.inr ⟨i, rfl, NS.out⟩⟩
          · have NN' : Hid M := AF.out (HA.out 0 (by omega))
            have NN : Hid (Nil l) := MN.out NN'.out
            have hig : (i : Int) > 0 := by omega
            clear hi0 HA FI AS AF FL
            by_cases hi7 : i < 7
            · have hgt : (-1 : Int) > (i : Int) - 8 := by omega
              refine wpMix_take (v := .bool false) 7 (by rfl) (by kernel_rfl) ⟨by rfl, ?_⟩ ?_
              · rintro W hW
                go_simp
              refine wpMix_take (v := .bool false) 8 (by rfl) (by kernel_rfl) ⟨by rfl, ?_⟩ ?_
              · rintro W hW
                go_simp
              refine wpMix_take (v := .int .i64 (-1)) 9 (by rfl) (by kernel_rfl) ⟨by kernel_rfl, ?_⟩ ?_
              · rintro W hW
                go_simp
              refine wpMix_take (v := .int .i64 i) 10 (by rfl) (by kernel_rfl) ⟨by kernel_rfl, ?_⟩ ?_
              · rintro W hW
                go_simp
              refine wpMix_take (v := .int .i64 ((i : Int) - 8)) 11 (by rfl) (by kernel_rfl) ⟨by kernel_rfl, ?_⟩ ?_
              · rintro W hW
                have h8 := w9.out
                go_simp
              refine wpMix_take (v := .bool true) 12 (by rfl) (by kernel_rfl) ⟨by kernel_rfl, ?_⟩ ?_
              · rintro W hW
                go_simp
              refine wpMix_take (v := .bool true) 13 (by rfl) (by kernel_rfl) ⟨by kernel_rfl, ?_⟩ ?_
              · rintro W hW
                go_simp
              refine wpMix_take (v := .int .i64 (-1)) 14 (by rfl) (by kernel_rfl) ⟨by kernel_rfl, ?_⟩ ?_
              · rintro W hW
                go_simp
              refine wpMix_take (v := .bool false) 15 (by rfl) (by kernel_rfl) ⟨by kernel_rfl, ?_⟩ ?_
              · rintro W hW
                go_simp
              refine wpMix_take (v := .bool false) 16 (by rfl) (by kernel_rfl) ⟨by kernel_rfl, ?_⟩ ?_
              · rintro W hW
                go_simp
              refine wpMix_lastv (v := .bool false) (w' := W4) 17 (by kernel_rfl) (by kernel_rfl) (by rfl) (by rfl) trivial ?_ trivial ?_
              · go_simp
              simp only [Act.put, List.setIfInBounds_toArray, List.set_cons_zero, List.set_cons_succ]
              go_wp2
              go_ret2
              first | exact ⟨O4.out.ext, _, Or.inl ⟨rfl, NN.out⟩⟩ | exact ⟨O4.out.ext, _, false, rfl, fun _ => NN.out, fun h => (by cases h)⟩ | exact ⟨O4.out.ext, NN.out⟩ | exact ⟨O4.out.ext, _, _, rfl, fun _ => NN.out, fun h => (by cases h)⟩
            · have hgt : ¬ (-1 : Int) > (i : Int) - 8 := by omega
              refine wpMix_take (v := .bool false) 7 (by rfl) (by kernel_rfl) ⟨by rfl, ?_⟩ ?_
              · rintro W hW
                go_simp
              refine wpMix_take (v := .bool false) 8 (by rfl) (by kernel_rfl) ⟨by rfl, ?_⟩ ?_
              · rintro W hW
                go_simp
              refine wpMix_take (v := .int .i64 (-1)) 9 (by rfl) (by kernel_rfl) ⟨by kernel_rfl, ?_⟩ ?_
              · rintro W hW
                go_simp
              refine wpMix_take (v := .int .i64 i) 10 (by rfl) (by kernel_rfl) ⟨by kernel_rfl, ?_⟩ ?_
              · rintro W hW
                go_simp
              refine wpMix_take (v := .int .i64 ((i : Int) - 8)) 11 (by rfl) (by kernel_rfl) ⟨by kernel_rfl, ?_⟩ ?_
              · rintro W hW
                have h8 := w9.out
                go_simp
              refine wpMix_take (v := .bool false) 12 (by rfl) (by kernel_rfl) ⟨by kernel_rfl, ?_⟩ ?_
              · rintro W hW
                go_simp
              refine wpMix_take (v := .bool false) 13 (by rfl) (by kernel_rfl) ⟨by kernel_rfl, ?_⟩ ?_
              · rintro W hW
                go_simp
              refine wpMix_pass 14 (by rfl) (by kernel_rfl) (by kernel_rfl) ?_
              refine wpMix_pass 15 (by rfl) (by kernel_rfl) (by kernel_rfl) ?_
              refine wpMix_take (v := .bool false) 16 (by rfl) (by kernel_rfl) ⟨by kernel_rfl, ?_⟩ ?_
              · rintro W hW
                go_simp
              refine wpMix_lastv (v := .bool false) (w' := W4) 17 (by kernel_rfl) (by kernel_rfl) (by rfl) (by rfl) trivial ?_ trivial ?_
              · go_simp
              simp only [Act.put, List.setIfInBounds_toArray, List.set_cons_zero, List.set_cons_succ]
              go_wp2
              go_ret2
              first | exact ⟨O4.out.ext, _, Or.inl ⟨rfl, NN.out⟩⟩ | exact ⟨O4.out.ext, _, false, rfl, fun _ => NN.out, fun h => (by cases h)⟩ | exact ⟨O4.out.ext, NN.out⟩ | exact ⟨O4.out.ext, _, _, rfl, fun _ => NN.out, fun h => (by cases h)⟩
      · obtain ⟨hX, hsi, _⟩ := SB.out _ _ _ HS.out
        rw [List.length_map] at hX
        have hX' : Hid (X.length ≤ 10000) := by show _ ≤ _; omega
        have hge : (s : Int) ≥ 0 := by omega
        have sn := SN.out _ _ _ HS.out
        have sF := SF.out _ _ _ HS.out
        have sL := fun t => SL.out _ _ _ t HS.out
        have sS := fun t => SS.out _ _ _ t HS.out
        have sn : Hid (¬ F i ∨ i < s + 8 → S (i + 1) s (X.map (·.l))) := sn
        have sF : Hid (F i → s + 8 ≤ i → br 0 ((l.drop (s + 8)).take (i - (s + 8))) = none → M) := sF
        have sL : Hid (∀ t, F i → s + 8 ≤ i → br 0 ((l.drop (s + 8)).take (i - (s + 8))) = some t → 64 < t.length → M) := sL
        have sS : Hid (∀ t, F i → s + 8 ≤ i → br 0 ((l.drop (s + 8)).take (i - (s + 8))) = some t → t.length ≤ 64 → S (i + 1) i (X.map (·.l) ++ [t])) := sS
        clear AS AF FL SN SF SL SS S8 SE SB hX HS
        go_wp2_with fail
        refine wp_region_mix (fun _ => True) 18 (by rfl) (by kernel_rfl) ?_
        have O1 : Hid (OwnT w wr.drew s4 X) := O0.out.mono ((Ext.refl wr).drewN 1)
        clear O0
        generalize wr.drew = W1 at *
        refine wpMix_take (v := .slice a n c) 0 (by rfl) (by kernel_rfl) ⟨by rfl, ?_⟩ ?_
        · rintro W hW
          go_simp
        refine wpMix_take (v := .int .i64 i) 1 (by rfl) (by kernel_rfl) ⟨by rfl, ?_⟩ ?_
        · rintro W hW
          go_simp
        refine wpMix_take (v := .int .i64 i) 2 (by rfl) (by kernel_rfl) ⟨by rfl, ?_⟩ ?_
        · rintro W hW
          go_simp
        refine wpMix_take (v := .int .i64 ((i : Int) + 8)) 3 (by rfl) (by kernel_rfl) ⟨by rfl, ?_⟩ ?_
        · rintro W hW
          have h8 := w8.out
          go_simp
        refine wpMix_take (v := .slice ai 8 ci) 4 (by rfl) (by kernel_rfl) ⟨by rfl, ?_⟩ ?_
        · rintro W hW
          exact exec_mid _ _ _ (by rfl) (by rfl) (by rfl) (by rfl) (SI W)
        refine wpMix_call 5 (w' := W1) 25 #[] (by kernel_rfl) trivial (by rfl) (by rfl) ?_ ?_
        · go_simp
        refine (refFlag_any W1).mono ?_
        rintro e W2 ⟨v, rfl, O⟩
        refine ⟨_, rfl, ?_⟩
        obtain ⟨⟨fa, fc, l5⟩, rfl, e5, hb5⟩ := O.bits
        simp only at e5
        subst e5
        have O2 : Hid (OwnT w W2 s4 X) := O1.out.mono O.1
        obtain ⟨p, hp, c10⟩ := CB.out W2 fa fc O2.out.ext hb5
        have HP : Hid (p = true ↔ F i) := hp
        clear O hb5 hp CB SI O1
        simp only [Wd.v, show fl.length = 8 from rfl]
        refine wpMix_call 6 (w' := W2) 10 #[.slice ai 8 ci, .slice fa 8 fc] (by kernel_rfl) trivial (by rfl) (by rfl) ?_ ?_
        · go_simp
        refine c10.mono ?_
        rintro e W4 ⟨rfl, Q4⟩
        refine ⟨_, rfl, ?_⟩
        have O4 : Hid (OwnT w W4 s4 X) := O2.out.mono Q4.ext
        clear c10 Q4 O2
        cases p
        · have NS : Hid (S (i + 1) s (X.map (·.l))) := sn.out (Or.inl (fun h => by have := HP.out.2 h; cases this))
          clear HP sn sF sL sS PART
          refine wpMix_take (v := .bool true) 7 (by rfl) (by kernel_rfl) ⟨by rfl, ?_⟩ ?_
          · rintro W hW
            go_simp
          refine wpMix_take (v := .bool true) 8 (by rfl) (by kernel_rfl) ⟨by rfl, ?_⟩ ?_
          · rintro W hW
            go_simp
          refine wpMix_pass 9 (by rfl) (by kernel_rfl) (by kernel_rfl) ?_
          refine wpMix_pass 10 (by rfl) (by kernel_rfl) (by kernel_rfl) ?_
          refine wpMix_pass 11 (by rfl) (by kernel_rfl) (by kernel_rfl) ?_
          refine wpMix_pass 12 (by rfl) (by kernel_rfl) (by kernel_rfl) ?_
          refine wpMix_pass 13 (by rfl) (by kernel_rfl) (by kernel_rfl) ?_
          refine wpMix_pass 14 (by rfl) (by kernel_rfl) (by kernel_rfl) ?_
          refine wpMix_pass 15 (by rfl) (by kernel_rfl) (by kernel_rfl) ?_
          refine wpMix_pass 16 (by rfl) (by kernel_rfl) (by kernel_rfl) ?_
          refine wpMix_lastv (v := .bool true) (w' := W4) 17 (by kernel_rfl) (by kernel_rfl) (by rfl) (by rfl) trivial ?_ trivial ?_
          · go_simp
          simp only [Act.put, List.setIfInBounds_toArray, List.set_cons_zero, List.set_cons_succ]
          go_wp2
          go_roundg (n - (i + 1))
          case measure => omega
          case rel => exact ⟨i + 1, X, _, (s : Int), by omega, by omega, by go_num, rfl, rfl, O4.out, Or.inr ⟨s, rfl, NS.out⟩⟩
        · have FI : Hid (F i) := HP.out.1 rfl
          clear HP
          by_cases his : i < s + 8
          · have NS : Hid (S (i + 1) s (X.map (·.l))) := sn.out (Or.inr his)
            have hgt : (s : Int) > (i : Int) - 8 := by omega
            clear sn sF sL sS PART FI
            refine wpMix_take (v := .bool false) 7 (by rfl) (by kernel_rfl) ⟨by rfl, ?_⟩ ?_
            · rintro W hW
              go_simp
            refine wpMix_take (v := .bool false) 8 (by rfl) (by kernel_rfl) ⟨by rfl, ?_⟩ ?_
            · rintro W hW
              go_simp
            refine wpMix_take (v := .int .i64 (s : Int)) 9 (by rfl) (by kernel_rfl) ⟨by kernel_rfl, ?_⟩ ?_
            · rintro W hW
              go_simp
            refine wpMix_take (v := .int .i64 i) 10 (by rfl) (by kernel_rfl) ⟨by kernel_rfl, ?_⟩ ?_
            · rintro W hW
              go_simp
            refine wpMix_take (v := .int .i64 ((i : Int) - 8)) 11 (by rfl) (by kernel_rfl) ⟨by kernel_rfl, ?_⟩ ?_
            · rintro W hW
              have h8 := w9.out
              go_simp
            refine wpMix_take (v := .bool true) 12 (by rfl) (by kernel_rfl) ⟨by kernel_rfl, ?_⟩ ?_
            · rintro W hW
              go_simp
            refine wpMix_take (v := .bool true) 13 (by rfl) (by kernel_rfl) ⟨by kernel_rfl, ?_⟩ ?_
            · rintro W hW
              go_simp
            refine wpMix_take (v := .int .i64 (s : Int)) 14 (by rfl) (by kernel_rfl) ⟨by kernel_rfl, ?_⟩ ?_
            · rintro W hW
              go_simp
            refine wpMix_take (v := .bool true) 15 (by rfl) (by kernel_rfl) ⟨by kernel_rfl, ?_⟩ ?_
            · rintro W hW
              go_simp
            refine wpMix_take (v := .bool true) 16 (by rfl) (by kernel_rfl) ⟨by kernel_rfl, ?_⟩ ?_
            · rintro W hW
              go_simp
            refine wpMix_lastv (v := .bool true) (w' := W4) 17 (by kernel_rfl) (by kernel_rfl) (by rfl) (by rfl) trivial ?_ trivial ?_
            · go_simp
            simp only [Act.put, List.setIfInBounds_toArray, List.set_cons_zero, List.set_cons_succ]
            go_wp2
            go_roundg (n - (i + 1))
            case measure => omega
            case rel => exact ⟨i + 1, X, _, (s : Int), by omega, by omega, by go_num, rfl, rfl, O4.out, Or.inr ⟨s, rfl, NS.out⟩⟩
          · have hgt : ¬ (s : Int) > (i : Int) - 8 := by omega
            obtain ⟨ap, cp, SP, CP⟩ := PART.out s i (by omega) hi
            have sF' : Hid (br 0 ((l.drop (s + 8)).take (i - (s + 8))) = none → M) := sF.out FI.out (by omega)
            have sL' : Hid (∀ t, br 0 ((l.drop (s + 8)).take (i - (s + 8))) = some t → 64 < t.length → M) := fun t => sL.out t FI.out (by omega)
            have sS' : Hid (∀ t, br 0 ((l.drop (s + 8)).take (i - (s + 8))) = some t → t.length ≤ 64 → S (i + 1) i (X.map (·.l) ++ [t])) := fun t => sS.out t FI.out (by omega)
            have c13 := CP.out W4 O4.out.ext
            clear PART CP sn sF sL sS FI
            generalize br 0 ((l.drop (s + 8)).take (i - (s + 8))) = R at *
            generalize i - (s + 8) = m at *
            have hs9 : s ≤ 1000 := by omega
            refine wpMix_take (v := .bool false) 7 (by rfl) (by kernel_rfl) ⟨by rfl, ?_⟩ ?_
            · rintro W hW
              go_simp
            refine wpMix_take (v := .bool false) 8 (by rfl) (by kernel_rfl) ⟨by rfl, ?_⟩ ?_
            · rintro W hW
              go_simp
            refine wpMix_take (v := .int .i64 (s : Int)) 9 (by rfl) (by kernel_rfl) ⟨by kernel_rfl, ?_⟩ ?_
            · rintro W hW
              go_simp
            refine wpMix_take (v := .int .i64 i) 10 (by rfl) (by kernel_rfl) ⟨by kernel_rfl, ?_⟩ ?_
            · rintro W hW
              go_simp
            refine wpMix_take (v := .int .i64 ((i : Int) - 8)) 11 (by rfl) (by kernel_rfl) ⟨by kernel_rfl, ?_⟩ ?_
            · rintro W hW
              have h8 := w9.out
              go_simp
            refine wpMix_take (v := .bool false) 12 (by rfl) (by kernel_rfl) ⟨by kernel_rfl, ?_⟩ ?_
            · rintro W hW
              go_simp
            refine wpMix_take (v := .bool false) 13 (by rfl) (by kernel_rfl) ⟨by kernel_rfl, ?_⟩ ?_
            · rintro W hW
              go_simp
            refine wpMix_pass 14 (by rfl) (by kernel_rfl) (by kernel_rfl) ?_
            refine wpMix_pass 15 (by rfl) (by kernel_rfl) (by kernel_rfl) ?_
            refine wpMix_take (v := .bool false) 16 (by rfl) (by kernel_rfl) ⟨by kernel_rfl, ?_⟩ ?_
            · rintro W hW
              go_simp
            refine wpMix_lastv (v := .bool false) (w' := W4) 17 (by kernel_rfl) (by kernel_rfl) (by rfl) (by rfl) trivial ?_ trivial ?_
            · go_simp
            simp only [Act.put, List.setIfInBounds_toArray, List.set_cons_zero, List.set_cons_succ]
            go_wp2_with fail
            refine c13.mono ?_
            rintro e W5 ⟨E5, h5⟩
            clear c13
            rcases h5 with ⟨hR, rfl⟩ | ⟨t, v, hR, rfl, OB⟩
            · have NN' : Hid M := sF'.out hR
              have NN : Hid (Nil l) := MN.out NN'.out
              have O5 : Hid (OwnT w W5 s4 X) := O4.out.mono E5
              clear hR sF' sL' sS' O4 E5
              go_wp2
              go_ret2
              first | exact ⟨O5.out.ext, _, Or.inl ⟨rfl, NN.out⟩⟩ | exact ⟨O5.out.ext, _, false, rfl, fun _ => NN.out, fun h => (by cases h)⟩ | exact ⟨O5.out.ext, NN.out⟩ | exact ⟨O5.out.ext, _, _, rfl, fun _ => NN.out, fun h => (by cases h)⟩
            · obtain ⟨⟨ya, yc, yl⟩, rfl, hyl, hyb, hyf⟩ := OwnB.far O4.out OB
              have O5 : Hid (OwnT w W5 s4 X) := O4.out.mono E5
              simp only at hyl
              subst hyl
              have YB : Hid (Bits W5 ⟨ya, yc, yl⟩) := hyb
              have YF : Hid (Far ⟨ya, yc, yl⟩ s4) := hyf
              have ym1 := hyb.1
              have ym2 := hyb.2.1
              simp only at ym1 ym2
              unfold maxLen at ym2
              simp only [Wd.v]
              clear hyb hyf OB E5 O4
              by_cases h64 : 64 < yl.length
              · have NN' : Hid M := sL'.out _ hR h64
                have NN : Hid (Nil l) := MN.out NN'.out
                have hz : (yl.length : Int) > 64 := by omega
                clear hR sF' sL' sS' YB YF
                generalize yl.length = k at *
                go_wp2
                go_ret2
                first | exact ⟨O5.out.ext, _, Or.inl ⟨rfl, NN.out⟩⟩ | exact ⟨O5.out.ext, _, false, rfl, fun _ => NN.out, fun h => (by cases h)⟩ | exact ⟨O5.out.ext, NN.out⟩ | exact ⟨O5.out.ext, _, _, rfl, fun _ => NN.out, fun h => (by cases h)⟩
              · have NS : Hid (S (i + 1) i ((X ++ [(⟨ya, yc, yl⟩ : Wd)]).map (·.l))) := by
                  show S _ _ _
                  rw [List.map_append, List.map_singleton]
                  exact sS'.out _ hR (Nat.le_of_not_lt h64)
                have hz : ¬ (yl.length : Int) > 64 := by omega
                have YV : Hid (Value.slice ya yl.length yc = Wd.v ⟨ya, yc, yl⟩) := rfl
                clear hR sF' sL' sS'
                go_wp2_with (at_builtin; refine wpList_appendT rfl _ _ rfl w W5 s4 (by rfl) X O5.out ⟨ya, yc, yl⟩ _ (by exact YV.out) (by rfl) YB.out YF.out hX'.out ?_; intro v6 w6 O6)
                have O6' : Hid (OwnT w w6 v6 (X ++ [⟨ya, yc, yl⟩])) := O6
                clear O6 O5
                go_wp2
                go_roundg (n - (i + 1))
                case measure => omega
                case rel => exact ⟨i + 1, X ++ [(⟨ya, yc, yl⟩ : Wd)], _, (i : Int), by omega, by omega, by go_num, rfl, rfl, O6'.out, Or.inr ⟨i, rfl, NS.out⟩⟩
    · have hltz : ¬ (i : Int) + 8 ≤ (n : Int) := by omega
      rcases HZ with ⟨rfl, rfl, HA⟩ | ⟨s, rfl, HS⟩
      · have NN' : Hid M := AF.out (fun h => HA.out 0 (by have h8 := FL.out 0 h; omega) h)
        have NN : Hid (Nil l) := MN.out NN'.out
        clear AS AF FL SN SF SL SS S8 SE SB MID PART HA
        go_wp2
        go_ret2
        first | exact ⟨O0.out.ext, _, Or.inl ⟨rfl, NN.out⟩⟩ | exact ⟨O0.out.ext, _, false, rfl, fun _ => NN.out, fun h => (by cases h)⟩ | exact ⟨O0.out.ext, NN.out⟩ | exact ⟨O0.out.ext, _, _, rfl, fun _ => NN.out, fun h => (by cases h)⟩
      · have hge : (s : Int) ≥ 0 := by omega
        obtain ⟨hX, hsi, hfit⟩ := SB.out _ _ _ HS.out
        have s8 := S8.out _ _ _ HS.out
        have sE := SE.out _ _ _ HS.out (by omega)
        rw [List.length_map] at hX hfit s8
        obtain ⟨xa, xc, rfl, hw⟩ := O0.out.wds
        have WW : Hid (Wds wr xa xc X) := hw
        have s8' : Hid (8 < X.length → M) := s8
        have sE' : Hid (l ≠ frm (X.map (·.l)) → M) := sE
        have FIT : Hid (X.length ≤ 8 → large (X.map (·.l)) = false) := hfit
        clear AS AF FL SN SF SL SS S8 SE SB MID PART HS s8 sE hfit hw
        by_cases h8 : X.length ≤ 8
        · have h8z : (X.length : Int) ≤ 8 := by omega
          have c15 := refFramed_any xa xc X wr WW.out (FIT.out h8)
          go_wp2_with fail
          refine c15.mono ?_
          rintro e W2 ⟨v, rfl, O⟩
          obtain ⟨y, rfl, hyl, hyb⟩ := O.bits
          have O2 : Hid (OwnT w W2 (.slice xa X.length xc) X) := O0.out.mono O.1
          have c10 := bools_any y ⟨a, c, l⟩ W2 hyb (XB.out.ext O2.out.ext)
          rw [hyl] at c10
          simp only [show (⟨a, c, l⟩ : Wd).v = .slice a l.length c from rfl, LN.out] at c10
          have HF : Hid (large (X.map (·.l)) = false) := FIT.out h8
          clear c15 hyl hyb O O0 WW FIT s8'
          by_cases heq : l = frm (X.map (·.l))
          · have HQ : Hid (l = frm (X.map (·.l))) := heq
            have hb : (frm (X.map (·.l)) == l) = true := by rw [← heq]; simp
            rw [hb] at c10
            clear hb heq
            go_wp2_with fail
            refine c10.mono ?_
            rintro e W3 ⟨rfl, Q3⟩
            have O3 : Hid (OwnT w W3 (.slice xa X.length xc) X) := O2.out.mono Q3.ext
            clear c10 Q3 O2
            go_wp2
            go_ret2
            first | exact ⟨O3.out.ext, _, Or.inr ⟨rfl, X, HQ.out, HF.out, O3.out⟩⟩ | exact ⟨O3.out.ext, _, true, rfl, fun h => (by cases h), fun _ => ⟨X, HQ.out, HF.out, O3.out⟩⟩ | exact ⟨O3.out.ext, X, HQ.out, HF.out, O3.out⟩
          · have NN' : Hid M := sE'.out heq
            have NN : Hid (Nil l) := MN.out NN'.out
            have hb : (frm (X.map (·.l)) == l) = false := by rw [beq_eq_false_iff_ne]; exact fun h => heq h.symm
            rw [hb] at c10
            clear hb heq
            go_wp2_with fail
            refine c10.mono ?_
            rintro e W3 ⟨rfl, Q3⟩
            have O3 : Hid (OwnT w W3 (.slice xa X.length xc) X) := O2.out.mono Q3.ext
            clear c10 Q3 O2
            go_wp2
            go_ret2
            first | exact ⟨O3.out.ext, _, Or.inl ⟨rfl, NN.out⟩⟩ | exact ⟨O3.out.ext, _, false, rfl, fun _ => NN.out, fun h => (by cases h)⟩ | exact ⟨O3.out.ext, NN.out⟩ | exact ⟨O3.out.ext, _, _, rfl, fun _ => NN.out, fun h => (by cases h)⟩
        · have h8z : ¬ (X.length : Int) ≤ 8 := by omega
          have NN' : Hid M := s8'.out (by omega)
          have NN : Hid (Nil l) := MN.out NN'.out
          clear s8' sE' FIT WW
          go_wp2
          go_ret2
          first | exact ⟨O0.out.ext, _, Or.inl ⟨rfl, NN.out⟩⟩ | exact ⟨O0.out.ext, _, false, rfl, fun _ => NN.out, fun h => (by cases h)⟩ | exact ⟨O0.out.ext, NN.out⟩ | exact ⟨O0.out.ext, _, _, rfl, fun _ => NN.out, fun h => (by cases h)⟩
end Go.Proofs.Ytglajpmifhecgaa
