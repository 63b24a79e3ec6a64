/-
  leader.Leader, leader.Fix; quipuref.Leader.
-/
import Derived.Test.YtiflbjbcagdlaaaLf
namespace Go.Proofs.Ytiflbjbcagdlaaa
open Go.RowKit
set_option linter.unusedVariables false

/-- What leader.Leader tells is wrong. -/
def lde (n : Int) (g : List Nat) (m : Nat) : Int := if we n g m g.length = 0 then (if (ldr n.toNat g m).isSome then 0 else 5) else we n g m g.length
/-- The word that leader.Leader tells. -/
def ldv (n : Int) (g : List Nat) (m : Nat) : Nat := if we n g m g.length = 0 then (ldr n.toNat g m).getD 0 else 0

theorem shr_small {q k : Nat} (h : q < 2 ^ k) : ((q : Int) / 2 ^ k != 0) = false := by
  have e : ((q / 2 ^ k : Nat) : Int) = (q : Int) / 2 ^ k := by rw [Int.natCast_ediv]; simp
  rw [← e, Nat.div_eq_of_lt h]; rfl
theorem shr_great {q k : Nat} (h : ¬ q < 2 ^ k) : ((q : Int) / 2 ^ k != 0) = true := by
  have e : ((q / 2 ^ k : Nat) : Int) = (q : Int) / 2 ^ k := by rw [Int.natCast_ediv]; simp
  have hp := Nat.two_pow_pos k
  have : 0 < q / 2 ^ k := Nat.div_pos (by omega) hp
  rw [← e, bne_iff_ne]
  omega

theorem leader_bad (n : Int) (x : Um) (hb : ∀ y ∈ x.z, y < 4294967296) (q : Nat) (h : re n x.z ≠ 0) (w : World) (hx : Us w x) :
    Calls Try.prog 11 #[.int .i64 n, x.v, .int .u32 (q : Nat)] w fun e w' => e = .returned (.tuple #[.int .u32 (ldv n x.z q : Nat), .int .i64 (lde n x.z q)]) ∧ Ext w w' := by
  have c1 := checkRows_any n x hb w hx
  have hz : (re n x.z != 0) = true := by rw [bne_iff_ne]; exact h
  have e1 : ldv n x.z q = 0 := if_neg (by rw [we_bad h]; exact h)
  have e2 : lde n x.z q = re n x.z := by
    unfold lde
    rw [we_bad h, if_neg h]
  rw [e1, e2]
  clear h hb hx e1 e2
  generalize re n x.z = R at *
  obtain ⟨a, c, g⟩ := x
  simp only [Um.v] at *
  generalize g.length = gl at *
  go_enter Try.func11, Try.ntmps11
  go_wp2_with fail
  refine c1.mono ?_
  rintro e w2 ⟨rfl, rfl⟩
  clear c1
  go_wp2
  go_ret2
  exact ⟨rfl, Ext.refl _⟩

theorem leader_range (n : Nat) (hn : n ≤ 12) (x : Um) (hl : x.z.length ≤ 8) (hb : ∀ y ∈ x.z, y < 2 ^ n) (q : Nat) (hq : q < 4294967296) (h : ¬ q < 2 ^ x.z.length) (w : World) (hx : Us w x) :
    Calls Try.prog 11 #[.int .i64 n, x.v, .int .u32 (q : Nat)] w fun e w' => e = .returned (.tuple #[.int .u32 (ldv n x.z q : Nat), .int .i64 (lde n x.z q)]) ∧ Ext w w' := by
  have c1 := checkRows_any n x (rows_low hn hb) w hx
  rw [re_good hn hl hb] at c1
  have hz := shr_great h
  have ew : we n x.z q x.z.length = 4 := by rw [we_good hn hl hb, if_neg h]
  have e1 : ldv n x.z q = 0 := if_neg (by rw [ew]; decide)
  have e2 : lde n x.z q = 4 := by
    unfold lde
    rw [ew, if_neg (by decide)]
  rw [e1, e2]
  clear h hb hx e1 e2 ew
  obtain ⟨a, c, g⟩ := x
  simp only [Um.v] at *
  generalize g.length = gl at *
  go_enter Try.func11, Try.ntmps11
  go_wp2_with fail
  refine c1.mono ?_
  rintro e w2 ⟨rfl, rfl⟩
  clear c1
  go_wp2
  go_ret2
  exact ⟨rfl, Ext.refl _⟩

theorem leader_good (n : Nat) (hn : n ≤ 12) (x : Um) (hl : x.z.length ≤ 8) (hb : ∀ y ∈ x.z, y < 2 ^ n) (q : Nat) (hq : q < 4294967296) (h : q < 2 ^ x.z.length) (w : World) (hx : Us w x) :
    Calls Try.prog 11 #[.int .i64 n, x.v, .int .u32 (q : Nat)] w fun e w' => e = .returned (.tuple #[.int .u32 (ldv n x.z q : Nat), .int .i64 (lde n x.z q)]) ∧ Ext w w' := by
  have c1 := checkRows_any n x (rows_low hn hb) w hx
  rw [re_good hn hl hb] at c1
  have hz := shr_small h
  have c2 := leaders_any n hn x hl hb w hx
  have ew : we n x.z q x.z.length = 0 := by rw [we_good hn hl hb, if_pos h]
  have e1 : ldv n x.z q = (bst (mk x.z) q (2 ^ n)).getD 0 := if_pos ew
  have e2 : lde n x.z q = if (bst (mk x.z) q (2 ^ n)).isSome then 0 else 5 := if_pos ew
  rw [e1, e2]
  clear h hb hx e1 e2 ew
  generalize mk x.z = f at *
  generalize 2 ^ n = M at *
  obtain ⟨a, c, g⟩ := x
  simp only [Um.v] at *
  generalize g.length = gl at *
  obtain ⟨r, hr⟩ : ∃ r, bst f q M = r := ⟨_, rfl⟩
  have HR : Hid (bst f q M = r) := hr
  rw [hr]
  clear hr
  cases r with
  | none =>
    go_enter Try.func11, Try.ntmps11
    go_wp2_with fail
    refine c1.mono ?_
    rintro e w2 ⟨rfl, rfl⟩
    clear c1
    go_wp2_with (first | (go_at_call 23; refine c2.mono ?_; rintro e w3 ⟨B, rfl, L, E⟩; have X : Hid (Ext w2 w3) := E; clear c2 E) | (at_lookup; refine wpList_look rfl _ _ rfl _ f B M rfl L.out q hq rfl 0 false (by rw [HR.out]; rfl) (by rw [HR.out]; rfl) ?_))
    go_ret2
    exact ⟨rfl, X.out⟩
  | some l =>
    go_enter Try.func11, Try.ntmps11
    go_wp2_with fail
    refine c1.mono ?_
    rintro e w2 ⟨rfl, rfl⟩
    clear c1
    go_wp2_with (first | (go_at_call 23; refine c2.mono ?_; rintro e w3 ⟨B, rfl, L, E⟩; have X : Hid (Ext w2 w3) := E; clear c2 E) | (at_lookup; refine wpList_look rfl _ _ rfl _ f B M rfl L.out q hq rfl l true (by rw [HR.out]; rfl) (by rw [HR.out]; rfl) ?_))
    go_ret2
    exact ⟨rfl, X.out⟩

theorem leader_any (n : Int) (x : Um) (hb : ∀ y ∈ x.z, y < 4294967296) (q : Nat) (hq : q < 4294967296) (w : World) (hx : Us w x) :
    Calls Try.prog 11 #[.int .i64 n, x.v, .int .u32 (q : Nat)] w fun e w' => e = .returned (.tuple #[.int .u32 (ldv n x.z q : Nat), .int .i64 (lde n x.z q)]) ∧ Ext w w' := by
  by_cases h : re n x.z = 0
  · obtain ⟨m, rfl, h1, h2, h3⟩ := re_zero h
    by_cases hl : q < 2 ^ x.z.length
    · exact leader_good m h1 x h2 h3 q hq hl w hx
    · exact leader_range m h1 x h2 h3 q hq hl w hx
  · exact leader_bad n x hb q h w hx

end Go.Proofs.Ytiflbjbcagdlaaa
