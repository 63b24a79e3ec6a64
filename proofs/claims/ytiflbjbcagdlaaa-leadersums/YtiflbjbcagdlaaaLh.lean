/-
  leader.Fix; quipuref.Leader.
-/
import Derived.Test.YtiflbjbcagdlaaaLg
namespace Go.Proofs.Ytiflbjbcagdlaaa
open Go.RowKit
set_option linter.unusedVariables false

/-- The word without its leader. -/
def fxv (n : Int) (g : List Nat) (q : Nat) : Nat := if we n g q n.toNat = 0 then q ^^^ (ldr n.toNat g (mk g q)).getD 0 else 0

theorem fix_any (n : Int) (x : Um) (hb : ∀ y ∈ x.z, y < 4294967296) (q : Nat) (hq : q < 4294967296) (w : World) (hx : Us w x) :
    Calls Try.prog 13 #[.int .i64 n, x.v, .int .u32 (q : Nat)] w fun e w' => e = .returned (.tuple #[.int .u32 (fxv n x.z q : Nat), .int .i64 (we n x.z q n.toNat)]) ∧ Ext w w' := by
  have c1 := checkWord_any n x hb q hq w hx
  by_cases h : we n x.z q n.toNat = 0
  · obtain ⟨m, rfl, hm, h2, h3⟩ := re_zero (we_zero h)
    have hM : 2 ^ m ≤ 2 ^ 12 := Nat.pow_le_pow_right (by omega) hm
    have hqm := we_low h
    simp only [Int.toNat_natCast] at hqm
    have c2 : Hid (∀ W, Ext w W → Calls Try.prog 23 #[.int .i64 m, x.v] W fun e w' => ∃ B, e = .returned (.map (some B)) ∧ Hid (LM (mk x.z) w' B (2 ^ m)) ∧ Ext W w') := fun W E =>
      leaders_any m hm x h2 h3 W (hx.ext E)
    have c3 : Hid (∀ W, Ext w W → Calls Try.prog 19 #[x.v, .int .u32 (q : Nat)] W fun e w' => e = .returned (.int .u32 (mk x.z q : Nat)) ∧ Ext W w') := fun W E =>
      markOf_any x q h2 (fun y hy => by have := h3 y hy; omega) (by omega) W (hx.ext E)
    have hmq : mk x.z q < 4294967296 := by
      have := mk_lt x.z q
      have : 2 ^ x.z.length ≤ 2 ^ 8 := Nat.pow_le_pow_right (by omega) h2
      omega
    obtain ⟨l, hl⟩ := bst_has (f := mk x.z) hqm
    have hll := (bst_some hl).lt
    have ex := u32_xor_nat q l hq (by omega)
    have ev : fxv m x.z q = q ^^^ l := by
      unfold fxv ldr
      rw [if_pos h, Int.toNat_natCast, hl]
      rfl
    have HL : Hid (bst (mk x.z) (mk x.z q) (2 ^ m) = some l) := hl
    rw [h] at c1 ⊢
    rw [ev]
    clear h hb hx h2 h3 ev hl
    obtain ⟨y, hy⟩ : ∃ y, mk x.z q = y := ⟨_, rfl⟩
    rw [hy] at HL c3 hmq
    clear hy
    generalize mk x.z = f at *
    generalize 2 ^ m = M at *
    obtain ⟨a, c, g⟩ := x
    simp only [Um.v] at *
    generalize g.length = gl at *
    go_enter Try.func13, Try.ntmps13
    go_wp2_with fail
    refine c1.mono ?_
    rintro e w2 ⟨rfl, E2⟩
    have c2' := c2.out w2 E2
    have X2 : Hid (Ext w w2) := E2
    clear c1 c2 E2
    go_wp2_with fail
    refine c2'.mono ?_
    rintro e w3 ⟨B, rfl, L, E3⟩
    have X3 : Hid (Ext w w3) := X2.out.trans E3
    have c3' := c3.out w3 X3.out
    clear c2' c3 E3
    go_wp2_with fail
    refine c3'.mono ?_
    rintro e w4 ⟨rfl, E4⟩
    have X4 : Hid (Ext w w4) := X3.out.trans E4
    have L4 : Hid (LM f w4 B M) := L.out.ext E4
    clear c3' E4
    go_wp2_with (at_lookup; refine wpList_look1 rfl _ _ rfl _ f B M rfl L4.out y hmq rfl l (by rw [HL.out]; rfl) ?_)
    go_ret2
    exact ⟨rfl, X4.out⟩
  · have hz : (we n x.z q n.toNat != 0) = true := by rw [bne_iff_ne]; exact h
    have ev : fxv n x.z q = 0 := if_neg h
    rw [ev]
    clear h hb hx ev
    generalize we n x.z q n.toNat = R at *
    obtain ⟨a, c, g⟩ := x
    simp only [Um.v] at *
    generalize g.length = gl at *
    go_enter Try.func13, Try.ntmps13
    go_wp2_with fail
    refine c1.mono ?_
    rintro e w2 ⟨rfl, E2⟩
    have X2 : Hid (Ext w w2) := E2
    clear c1 E2
    go_wp2
    go_ret2
    exact ⟨rfl, X2.out⟩

/-- quipuref.Leader. -/
theorem refLeader_any (n : Nat) (hn : n ≤ 12) (x : Um) (hl : x.z.length ≤ 8) (hb : ∀ y ∈ x.z, y < 2 ^ n) (q : Nat) (hq : q < 4294967296) (w : World) (hx : Us w x) :
    Calls Try.prog 12 #[.int .i64 n, x.v, .int .u32 (q : Nat)] w fun e w' => e = .returned (.tuple #[.int .u32 ((ldr n x.z q).getD 0 : Nat), .bool (ldr n x.z q).isSome]) ∧ w' = w := by
  have hM : 2 ^ n ≤ 2 ^ 12 := Nat.pow_le_pow_right (by omega) hn
  have pw : (2 : Int) ^ n % 4294967296 = ((2 ^ n : Nat) : Int) := pow_in n (by omega)
  have hb' := rows_low hn hb
  have CM : Hid (∀ v, v < 4096 → Calls Try.prog 10 #[x.v, .int .u32 (v : Nat)] w fun e w' => e = .returned (.int .u32 (mk x.z v : Nat)) ∧ w' = w) := fun v hv => refMark_any x v hl hb' (by omega) w hx
  have CS : Hid (∀ v, v < 4096 → Calls Try.prog 17 #[.int .u32 (v : Nat)] w fun e w' => e = .returned (.int .i64 (pop v : Nat)) ∧ w' = w) := fun v hv => size_any v (by omega) w
  have PL : Hid (∀ v, v < 2 ^ n → pop v ≤ n) := fun v hv => pop_le hv (by omega)
  unfold ldr
  clear hb hb' hx
  generalize mk x.z = f at *
  generalize 2 ^ n = M at *
  have HIT : Hid (∀ v s, v < M → f v = q → pop v = s → (∀ u, u < M → f u = q → s ≤ pop u) → (∀ u, u < v → f u = q → pop u ≠ s) → bst f q M = some v) := fun v s h1 h2 h3 h4 h5 =>
    bst_of ⟨h1, h2, fun u hu e => by
      have a1 := h4 u hu e
      by_cases h : pop u = s
      · refine Or.inr ⟨by omega, ?_⟩
        rcases Nat.lt_or_ge u v with h6 | h6
        · exact absurd h (h5 u h6 e)
        · exact h6
      · exact Or.inl (by omega)⟩
  have MISS : Hid ((∀ u, u < M → f u = q → n + 1 ≤ pop u) → bst f q M = none) := fun h => by
    cases hb : bst f q M with
    | none => rfl
    | some l =>
      have hl := bst_some hb
      have := h l hl.lt hl.has
      have := PL.out l hl.lt
      omega
  clear PL
  obtain ⟨a, c, g⟩ := x
  simp only [Um.v] at *
  generalize g.length = gl at *
  generalize bst f q M = R at *
  go_enter Try.func12, Try.ntmps12
  go_wp2
  go_loopg [8] (n + 1) (fun gg s8 wr => ∃ s : Nat, s ≤ n + 1 ∧ n + 1 - s ≤ gg ∧ s8 = .int .i64 s ∧ Aside (∀ u, u < M → f u = q → s ≤ pop u) ∧ wr = w)
  case atStart => exact ⟨0, Nat.zero_le _, by omega, rfl, fun _ _ _ => Nat.zero_le _, rfl⟩
  case round =>
    obtain ⟨s, hs, hgg, rfl, A, rfl⟩ := hrel
    by_cases hlt : s < n + 1
    · have hltz : (s : Int) ≤ (n : Int) := by omega
      clear MISS
      obtain ⟨wo, rfl⟩ : ∃ wo, wo = wr := ⟨_, rfl⟩
      go_wp2
      go_loopg [9] M (fun gg s9 wr => ∃ k : Nat, k ≤ M ∧ M - k ≤ gg ∧ s9 = .int .u32 k ∧ Aside (∀ u, u < k → f u = q → pop u ≠ s) ∧ wr = wo)
      case atStart => exact ⟨0, Nat.zero_le _, by omega, rfl, fun u hu => absurd hu (Nat.not_lt_zero _), rfl⟩
      case round =>
        obtain ⟨k, hk, hg2, rfl, A2, rfl⟩ := hrel
        by_cases hlk : k < M
        · have hlkz : (k : Int) < (M : Int) := by omega
          have c1 := CS.out k (by omega)
          have c2 := CM.out k (by omega)
          have hit : Aside (f k = q → pop k = s → R = some k) := fun h1 h2 => HIT.out k s hlk h1 h2 A.out A2.out
          have go : Aside ((f k = q → pop k ≠ s) → ∀ u, u < k + 1 → f u = q → pop u ≠ s) := fun h u hu => by
            rcases Nat.lt_succ_iff_lt_or_eq.1 hu with h' | rfl
            · exact A2.out u h'
            · exact h
          clear HIT CM CS
          by_cases hp : pop k = s
          · have hpz : ((pop k : Nat) : Int) == (s : Int) := by rw [hp]; exact beq_self_eq_true _
            by_cases hf : f k = q
            · have HR : Aside (R = some k) := hit.out hf hp
              have hfz : ((f k : Nat) : Int) == (q : Int) := by rw [hf]; exact beq_self_eq_true _
              clear hit go hf hp
              generalize f k = y at *
              generalize pop k = z at *
              go_wp2_with fail
              refine c1.mono ?_
              rintro e v1 ⟨rfl, rfl⟩
              clear c1
              go_wp2_with fail
              refine c2.mono ?_
              rintro e v2 ⟨rfl, rfl⟩
              clear c2
              go_wp2
              go_ret2
              exact ⟨by rw [HR.out]; rfl, rfl⟩
            · have GO : Aside (∀ u, u < k + 1 → f u = q → pop u ≠ s) := go.out (fun h => absurd h hf)
              have hfz : (((f k : Nat) : Int) == (q : Int)) = false := by rw [beq_eq_false_iff_ne]; omega
              clear hit go hf hp
              generalize f k = y at *
              generalize pop k = z at *
              go_wp2_with fail
              refine c1.mono ?_
              rintro e v1 ⟨rfl, rfl⟩
              clear c1
              go_wp2_with fail
              refine c2.mono ?_
              rintro e v2 ⟨rfl, rfl⟩
              clear c2
              go_wp2
              go_roundg (M - (k + 1))
              case measure => omega
              case rel => exact ⟨k + 1, by omega, by omega, by go_num, GO.out, rfl⟩
          · have GO : Aside (∀ u, u < k + 1 → f u = q → pop u ≠ s) := go.out (fun _ => hp)
            have hpz : (((pop k : Nat) : Int) == (s : Int)) = false := by rw [beq_eq_false_iff_ne]; omega
            clear hit go hp c2
            generalize pop k = z at *
            go_wp2_with fail
            refine c1.mono ?_
            rintro e v1 ⟨rfl, rfl⟩
            clear c1
            go_wp2
            go_roundg (M - (k + 1))
            case measure => omega
            case rel => exact ⟨k + 1, by omega, by omega, by go_num, GO.out, rfl⟩
        · obtain rfl : k = M := by omega
          have hlkz : ¬ (k : Int) < (k : Int) := by omega
          have NX : Aside (∀ u, u < k → f u = q → s + 1 ≤ pop u) := fun u hu e => by
            have := A.out u hu e
            have := A2.out u hu e
            omega
          clear HIT CM CS
          go_wp2
          go_roundg (n + 1 - (s + 1))
          case measure => omega
          case rel => exact ⟨s + 1, by omega, by omega, by go_num, NX.out, rfl⟩
    · obtain rfl : s = n + 1 := by omega
      have hltz : ¬ ((n + 1 : Nat) : Int) ≤ (n : Int) := by omega
      have HR : Aside (R = none) := MISS.out A.out
      clear HIT CM CS MISS A
      go_wp2
      go_ret2
      exact ⟨by rw [HR.out]; rfl, rfl⟩

end Go.Proofs.Ytiflbjbcagdlaaa
