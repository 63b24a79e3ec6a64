/-
  state.Read.
-/
import Derived.Test.YtchnlbanhkigjaaFc
import Derived.Test.YtchnlbanhkigjaaKb
namespace Go.Proofs.Ytchnlbanhkigjaa
open Go.RowKit
set_option linter.unusedVariables false

/-- What Read tells of parts, a number and a count. -/
def rde (z : List Int) (x n : Int) : Int := if pxe z x = 0 then (if 64 < n then 1 else if n < 0 then 4 else if st (nt z) x.toNat n.toNat = 0 then 0 else 3) else pxe z x

theorem sread_parts (a : Option Addr) (n c : Nat) (x m E : Int) (w : World) (hE : (E != 0) = true)
    (c1 : Calls Try.prog 18 #[.slice a n c, .int .i64 x] w fun e w' => e = .returned (.tuple #[.int .i64 0, .int .i64 E]) ∧ w' = w) :
    Calls Try.prog 15 #[.slice a n c, .int .i64 x, .int .i64 m] w fun e w' => e = .returned (.tuple #[.slice none 0 0, .int .i64 E]) ∧ w' = w := by
  go_enter Try.func15, Try.ntmps15
  go_wp2_with fail
  refine c1.mono ?_
  rintro e w' ⟨rfl, rfl⟩
  clear c1
  go_wp2
  go_ret2
  exact ⟨rfl, rfl⟩
theorem sread_large (a : Option Addr) (n c : Nat) (x m S : Int) (w : World) (hm : 64 < m)
    (c1 : Calls Try.prog 18 #[.slice a n c, .int .i64 x] w fun e w' => e = .returned (.tuple #[.int .i64 S, .int .i64 0]) ∧ w' = w) :
    Calls Try.prog 15 #[.slice a n c, .int .i64 x, .int .i64 m] w fun e w' => e = .returned (.tuple #[.slice none 0 0, .int .i64 1]) ∧ w' = w := by
  go_enter Try.func15, Try.ntmps15
  go_wp2_with fail
  refine c1.mono ?_
  rintro e w' ⟨rfl, rfl⟩
  clear c1
  go_wp2
  go_ret2
  exact ⟨rfl, rfl⟩
theorem sread_low (a : Option Addr) (n c : Nat) (x m S : Int) (w : World) (hm : m < 0)
    (c1 : Calls Try.prog 18 #[.slice a n c, .int .i64 x] w fun e w' => e = .returned (.tuple #[.int .i64 S, .int .i64 0]) ∧ w' = w) :
    Calls Try.prog 15 #[.slice a n c, .int .i64 x, .int .i64 m] w fun e w' => e = .returned (.tuple #[.slice none 0 0, .int .i64 4]) ∧ w' = w := by
  have h2 : ¬ 64 < m := by omega
  go_enter Try.func15, Try.ntmps15
  go_wp2_with fail
  refine c1.mono ?_
  rintro e w' ⟨rfl, rfl⟩
  clear c1
  go_wp2
  go_ret2
  exact ⟨rfl, rfl⟩

theorem fill_rl (w : World) (B : Nat) (p : List Nat) (x m k : Nat) (hk : k < m) (h : Row w B 3 (iv (rl p x k ++ List.replicate (m - k) 0))) :
    Row (w.setCell ⟨B, k, none⟩ (.int .i64 (ts p (st p x k) : Nat))) B 3 (iv (rl p x (k + 1) ++ List.replicate (m - (k + 1)) 0)) := by
  have := h.set k (.int .i64 (ts p (st p x k) : Nat))
  have e : (iv (rl p x k ++ List.replicate (m - k) 0)).set k (.int .i64 (ts p (st p x k) : Nat)) = iv (rl p x (k + 1) ++ List.replicate (m - (k + 1)) 0) := by
    obtain ⟨d, hd⟩ : ∃ d, m = k + 1 + d := ⟨m - (k + 1), by omega⟩
    rw [show m - k = d + 1 by omega, show m - (k + 1) = d by omega, rl_succ]
    have hl2 : ((rl p x k).map (Value.int .i64)).length = k := by rw [List.length_map, rl_length]
    unfold iv
    rw [List.map_append, List.set_append, if_neg (by omega), hl2, Nat.sub_self, List.replicate_succ]
    simp
  rw [e] at this
  exact this

set_option maxHeartbeats 1000000 in
theorem sread_good (b o n c : Nat) (p : List Nat) (x m : Nat) (w : World) (hn : p.length = n) (h8 : n ≤ 8) (h1 : 1 ≤ p.sum) (h16 : p.sum ≤ 16) (h : Pa w b o p) (hx : x ≤ 1099511627776) (hm : m ≤ 64)
    (c1 : Calls Try.prog 18 #[.slice (some ⟨b, o, none⟩) n c, .int .i64 x] w fun e w' => e = .returned (.tuple #[.int .i64 (p.sum : Nat), .int .i64 0]) ∧ w' = w) :
    Calls Try.prog 15 #[.slice (some ⟨b, o, none⟩) n c, .int .i64 x, .int .i64 m] w fun e w' =>
      (e = .returned (.tuple #[.slice (some ⟨w.heap.size, 0, none⟩) m m, .int .i64 0]) ∧ st p x m = 0 ∧ Row w' w.heap.size 3 (iv (rl p x m)) ∧ Ext w w') ∨ (e = .returned (.tuple #[.slice none 0 0, .int .i64 3]) ∧ st p x m ≠ 0 ∧ Ext w w') := by
  have hmk := run_make_row' (P := Try.prog) 22 3 (.int .i64 0) 8 Try.underlying22 info3 rfl .i64 .i64 m (by omega) (by omega)
  have ST : Hid (∃ W, W = w.alloc (.cells (madeCells #[.int .i64 0] m) 3) ∧ Ext w W ∧ Row W w.heap.size 3 (iv (rl p x 0 ++ List.replicate (m - 0) 0))) := by
    refine ⟨_, rfl, (Ext.refl _).alloc _, ?_⟩
    have := Row.made w 3 (.int .i64 0) m
    simpa [rl_zero] using this
  have FIN : Hid (rl p x m ++ List.replicate (m - m) 0 = rl p x m) := by
    show _ = _
    rw [Nat.sub_self, List.replicate_zero, List.append_nil]
  have LEN : Hid (∀ k, k ≤ m → (iv (rl p x k ++ List.replicate (m - k) 0)).length = m) := fun k hk => by
    simp [rl_length]; omega
  have FILL : Hid (∀ (W : World) k, k < m → Row W w.heap.size 3 (iv (rl p x k ++ List.replicate (m - k) 0)) → Row (W.setCell ⟨w.heap.size, k, none⟩ (.int .i64 (ts p (st p x k) : Nat))) w.heap.size 3 (iv (rl p x (k + 1) ++ List.replicate (m - (k + 1)) 0))) := fun W k hk h => fill_rl W _ p x m k hk h
  have TAKE : Hid (∀ k W, Ext w W → Calls Try.prog 21 #[.slice (some ⟨b, o, none⟩) n c, .int .i64 (p.sum : Nat), .int .i64 (st p x k : Nat)] W fun e w' => e = .returned (.tuple #[.int .i64 (st p x (k + 1) : Nat), .int .i64 (ts p (st p x k) : Nat)]) ∧ Qt W w') := fun k W e => take_any b o n c p (st p x k) W hn h8 h1 h16 (Nat.le_trans (st_le (by omega) k) hx) (h.ext e)
  have FEW : Hid (∀ k, st p x k ≤ 1099511627776) := fun k => Nat.le_trans (st_le (by omega) k) hx
  have S0 : Hid (st p x 0 = x) := rfl
  clear h hn
  generalize p.sum = T at *
  go_enter Try.func15, Try.ntmps15
  go_wp2_with fail
  refine c1.mono ?_
  rintro e w' ⟨rfl, rfl⟩
  clear c1
  go_wp2
  obtain ⟨W, hW, hE, hR⟩ := ST.out
  rw [← hW]
  have HE : Hid (Ext w' W) := hE
  have HR : Hid (Row W w'.heap.size 3 (iv (rl p x 0 ++ List.replicate (m - 0) 0))) := hR
  clear hW hE hR ST hmk
  go_loopg [1, 29] m (fun gg s1 s wr => ∃ k : Nat, k ≤ m ∧ m - k ≤ gg ∧ s1 = .int .i64 (st p x k : Nat) ∧ s = .int .i64 k ∧ Aside (Ext w' wr) ∧ Aside (Row wr w'.heap.size 3 (iv (rl p x k ++ List.replicate (m - k) 0))))
  case atStart => exact ⟨0, Nat.zero_le _, by omega, by rw [S0.out], rfl, HE.out, HR.out⟩
  case round =>
    obtain ⟨k, hk, hgg, rfl, rfl, BW, A⟩ := hrel
    have fk := FEW.out k
    by_cases hlt : k < m
    · have hltz : (k : Int) < (m : Int) := by omega
      have c2 := TAKE.out k wr BW.out
      have NX : Hid (∀ W2, Qt wr W2 → W2.frozen? ⟨w'.heap.size, k, none⟩ = false ∧ (∃ v, W2.cell? ⟨w'.heap.size, k, none⟩ = some v) ∧ Row (W2.setCell ⟨w'.heap.size, k, none⟩ (.int .i64 (ts p (st p x k) : Nat))) w'.heap.size 3 (iv (rl p x (k + 1) ++ List.replicate (m - (k + 1)) 0)) ∧ Ext w' (W2.setCell ⟨w'.heap.size, k, none⟩ (.int .i64 (ts p (st p x k) : Nat)))) := fun W2 q => by
        have r2 := A.out.ext q.ext
        exact ⟨r2.fr k, ⟨_, r2.cell k (by rw [LEN.out k hk]; exact hlt)⟩, FILL.out W2 k hlt r2, (BW.out.trans q.ext).setCell (Nat.le_refl _) _⟩
      have fk2 := FEW.out (k + 1)
      clear A FILL LEN HR TAKE FEW FIN S0 BW HE
      obtain ⟨y2, hy2⟩ : ∃ y2, st p x (k + 1) = y2 := ⟨_, rfl⟩
      rw [hy2] at c2 fk2
      have HY : Hid (st p x (k + 1) = y2) := hy2
      clear hy2
      generalize ts p (st p x k) = sy at *
      generalize st p x k = y at *
      go_wp2_with fail
      refine c2.mono ?_
      rintro e w2 ⟨rfl, hq⟩
      obtain ⟨q1, ⟨v, q2⟩, q3, q4⟩ := NX.out w2 hq
      have Q3 : Hid _ := q3
      have Q4 : Hid _ := q4
      clear c2 hq NX q3 q4
      go_wp2
      go_roundg (m - (k + 1))
      case measure => omega
      case rel => exact ⟨k + 1, by omega, by omega, by rw [HY.out], by go_num, Q4.out, Q3.out⟩
    · have hk' : k = m := by omega
      subst hk'
      have HR2 : Hid (Row wr w'.heap.size 3 (iv (rl p x k))) := by
        have := A.out
        rw [FIN.out] at this
        exact this
      clear A FIN LEN FILL HR TAKE FEW S0
      by_cases h0 : st p x k = 0
      · have H0 : Hid (st p x k = 0) := h0
        rw [h0] at fk ⊢
        clear h0
        go_wp2
        go_ret2
        exact Or.inl ⟨rfl, H0.out, HR2.out, BW.out⟩
      · have H0 : Hid (st p x k ≠ 0) := h0
        have hb : ((st p x k : Int) != 0) = true := by rw [bne_iff_ne]; omega
        clear h0
        go_wp2
        go_ret2
        exact Or.inr ⟨rfl, H0.out, BW.out⟩

end Go.Proofs.Ytchnlbanhkigjaa
