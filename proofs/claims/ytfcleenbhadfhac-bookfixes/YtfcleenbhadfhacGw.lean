/-
  book.Grow.
-/
import Derived.Test.YtfcleenbhadfhacGr
namespace Go.Proofs.Ytfcleenbhadfhac
open Go.RowKit

theorem OwnU.base {w w0 w' : World} {v : Value} {z : List Nat} (h : OwnU w0 w' v z) (e : Ext w w0) : OwnU w w' v z := by
  obtain ⟨h1, h2, h3⟩ := h
  refine ⟨e.trans h1, h2, ?_⟩
  rcases h3 with h3 | ⟨g, cap, cur, hv, hg, r⟩
  · exact Or.inl h3
  · exact Or.inr ⟨g, cap, cur, hv, Nat.le_trans e.size hg, r⟩

theorem OwnU.len {w w' : World} {v : Value} {z : List Nat} (h : OwnU w w' v z) : ∃ a c, v = .slice a z.length c := by
  obtain ⟨x, rfl, rfl, _⟩ := h.us
  exact ⟨_, _, rfl⟩

theorem grow_bits (n d : Int) (h : ce n [] ≠ 0) (w : World) : Calls Try.prog 6 #[.int .i64 n, .int .i64 d] w fun e w' => e = .returned (.tuple #[.slice none 0 0, .int .i64 (ce n [])]) ∧ Ext w w' := by
  have c1 : Hid (∀ W, Calls Try.prog 14 #[.int .i64 n, .slice none 0 0] W fun e w' => e = .returned (.int .i64 (ce n [])) ∧ w' = W) := fun W => checkNone_any n W
  have hz : (ce n [] != 0) = true := by rw [bne_iff_ne]; exact h
  have E : Hid (Ext w (w.alloc (.cells #[.int .i64 d] 3))) := (Ext.refl w).alloc _
  clear h
  generalize ce n [] = R at *
  go_enter Try.func6, Try.ntmps6
  go_wp2_with fail
  refine (c1.out _).mono ?_
  rintro e w1 ⟨rfl, rfl⟩
  clear c1
  go_wp2
  go_ret2
  exact ⟨rfl, E.out⟩

theorem grow_range (n : Nat) (hn : n ≤ 12) (d : Int) (h : d < 1 ∨ (n : Int) < d) (w : World) : Calls Try.prog 6 #[.int .i64 n, .int .i64 d] w fun e w' => e = .returned (.tuple #[.slice none 0 0, .int .i64 4]) ∧ Ext w w' := by
  have c1 : Hid (∀ W, Calls Try.prog 14 #[.int .i64 n, .slice none 0 0] W fun e w' => e = .returned (.int .i64 0) ∧ w' = W) := fun W => by
    have := checkNone_any n W
    rwa [ce_good hn (fun x hx => by cases hx)] at this
  have E : Hid (Ext w (w.alloc (.cells #[.int .i64 d] 3))) := (Ext.refl w).alloc _
  have ld : (w.alloc (.cells #[.int .i64 d] 3)).cell? ⟨w.heap.size, 0, none⟩ = some (.int .i64 d) := new_one _ _ _
  generalize hW : w.alloc (.cells #[.int .i64 d] 3) = W at *
  by_cases h1 : d < 1
  · clear h
    go_enter Try.func6, Try.ntmps6
    go_wp2_with fail
    refine (c1.out _).mono ?_
    rintro e w1 ⟨rfl, rfl⟩
    clear c1
    go_wp2
    go_ret2
    exact ⟨rfl, E.out⟩
  · have h2 : (n : Int) < d := h.resolve_left h1
    have h1' : ¬ d < 1 := h1
    clear h h1
    go_enter Try.func6, Try.ntmps6
    go_wp2_with fail
    refine (c1.out _).mono ?_
    rintro e w1 ⟨rfl, rfl⟩
    clear c1
    go_wp2
    go_ret2
    exact ⟨rfl, E.out⟩

theorem gw_yes {d m : Nat} (h : (gw d m).any (fun v => decide (far v m < d)) = true) : gw d (m + 1) = gw d m := if_pos h
theorem gw_no {d m : Nat} (h : (gw d m).any (fun v => decide (far v m < d)) = false) : gw d (m + 1) = gw d m ++ [m] := if_neg (by rw [h]; decide)

theorem grow_good (n d : Nat) (hn : n ≤ 12) (hd : 1 ≤ d) (hdn : d ≤ n) (w : World) : Calls Try.prog 6 #[.int .i64 n, .int .i64 d] w fun e w' =>
    (∃ v, (gw d (2 ^ n)).length ≤ 64 ∧ e = .returned (.tuple #[v, .int .i64 0]) ∧ OwnU w w' v (gw d (2 ^ n))) ∨ (64 < (gw d (2 ^ n)).length ∧ e = .returned (.tuple #[.slice none 0 0, .int .i64 1]) ∧ Ext w w') := by
  have hM : 2 ^ n ≤ 2 ^ 12 := Nat.pow_le_pow_right (by omega) hn
  have pw : (2 : Int) ^ n % 4294967296 = ((2 ^ n : Nat) : Int) := pow_in n (by omega)
  have c1 : Hid (∀ W, Calls Try.prog 14 #[.int .i64 n, .slice none 0 0] W fun e w' => e = .returned (.int .i64 0) ∧ w' = W) := fun W => by
    have := checkNone_any n W
    rwa [ce_good hn (fun x hx => by cases hx)] at this
  have E : Hid (Ext w (w.alloc (.cells #[.int .i64 (d : Nat)] 3))) := (Ext.refl w).alloc _
  have ld : (w.alloc (.cells #[.int .i64 (d : Nat)] 3)).cell? ⟨w.heap.size, 0, none⟩ = some (.int .i64 (d : Nat)) := new_one _ _ _
  generalize hW : w.alloc (.cells #[.int .i64 (d : Nat)] 3) = W0 at *
  have eg : ∀ args w, (callFunc 15 args).run Try.prog w = .ok (.enter 15 args) w := fun args w => by rfl
  have HS : Hid (∀ (x : Um) (q : Nat) (B : Nat) (W : World), (∀ y ∈ x.z, y < 4096) → q < 4096 → Us W x → Ext W0 W → W.cell? ⟨B, 0, none⟩ = some (.int .u32 (q : Nat)) → Calls Try.prog 17 #[x.v, .func (.func 15) #[] #[.pointer (some ⟨B, 0, none⟩), .pointer (some ⟨w.heap.size, 0, none⟩)]] W fun e w' => e = .returned (.bool (x.z.any (fun v => decide (far v q < d)))) ∧ Ext W w') := fun x q B W hb hq hx E hc =>
    hasU_any x 15 _ (fun v => decide (far v q < d)) W eg hx (fun W2 y hy E2 => by
      have c := near_q y q (d : Nat) (hb y hy) hq ⟨B, 0, none⟩ ⟨w.heap.size, 0, none⟩ W2 (E2.cell hc) ((E.trans E2).cell ld)
      refine c.mono fun e w' ⟨h1, h2⟩ => ⟨?_, h2⟩
      rw [h1]
      congr 2
      exact decide_eq_decide.2 (by omega))
  have MONO : Hid (∀ k, k ≤ 2 ^ n → (gw d k).length ≤ (gw d (2 ^ n)).length) := fun k hk => gw_mono d k _ hk
  have LT : Hid (∀ k, ∀ y ∈ gw d k, y < k) := gw_lt d
  clear eg
  have dz1 : ¬ (d : Int) < 1 := by omega
  have dz2 : ¬ (n : Int) < (d : Int) := by omega
  generalize 2 ^ n = M at *
  go_enter Try.func6, Try.ntmps6
  go_wp2_with fail
  refine (c1.out _).mono ?_
  rintro e w1 ⟨rfl, rfl⟩
  clear c1
  go_wp2
  rw [pw]
  clear dz1 dz2 hd hdn
  generalize decide (n < d) = b1
  generalize decide ((d : Int) < 1) = b2
  go_loopg [7, 8, 9, 24] M (fun gg s7 _ _ s wr => ∃ k : Nat, k ≤ M ∧ M - k ≤ gg ∧ s = .int .u32 k ∧ Aside (OwnU w1 wr s7 (gw d k)) ∧ Aside ((gw d k).length ≤ 64))
  case atStart => exact ⟨0, Nat.zero_le _, by omega, rfl, OwnU.nil (Ext.refl _), by show 0 ≤ 64; omega⟩
  case round =>
    obtain ⟨k, hk, hgg, rfl, O, FW⟩ := hrel
    by_cases hlt : k < M
    · have hltz : (k : Int) < (M : Int) := by omega
      obtain ⟨x, rfl, hz, hus⟩ := O.out.us
      have OO : Hid (OwnU w1 wr x.v (gw d k)) := O.out
      have AE : Hid (Ext wr (wr.alloc (.cells #[.int .u32 (k : Nat)] 22))) := (Ext.refl wr).alloc _
      have ce2 : (wr.alloc (.cells #[.int .u32 (k : Nat)] 22)).cell? ⟨wr.heap.size, 0, none⟩ = some (.int .u32 (k : Nat)) := new_one _ _ _
      have c2 := HS.out x k wr.heap.size (wr.alloc (.cells #[.int .u32 (k : Nat)] 22)) (by rw [hz]; intro y hy; have := LT.out k y hy; omega) (by omega) (hus.ext AE.out) (OO.out.1.trans AE.out) ce2
      rw [hz] at c2
      have MO := MONO.out (k + 1) hlt
      have few := FW.out
      have ln : Hid ((gw d k).length = x.z.length) := by show _ = _; rw [hz]
      have GY : Hid ((gw d k).any (fun v => decide (far v k < d)) = true → gw d (k + 1) = gw d k) := gw_yes
      have GN : Hid ((gw d k).any (fun v => decide (far v k < d)) = false → gw d (k + 1) = gw d k ++ [k]) := gw_no
      clear O FW HS MONO LT hus hz
      generalize (gw d k).any (fun v => decide (far v k < d)) = t at *
      rw [ln.out] at few
      cases t with
      | true =>
        have NF := GY.out rfl
        have NF' : Hid (gw d (k + 1) = gw d k) := NF
        clear GY GN MO NF
        go_wp2_with fail
        refine c2.mono ?_
        rintro e w2 ⟨rfl, E2⟩
        have O2 : Hid (OwnU w1 w2 x.v (gw d (k + 1))) := by rw [NF'.out]; exact OO.out.ext (AE.out.trans E2)
        have FF : Hid ((gw d (k + 1)).length ≤ 64) := by show _ ≤ _; rw [NF'.out, ln.out]; exact few
        clear c2 E2 OO AE
        go_wp2
        go_roundg (M - (k + 1))
        case measure => omega
        case rel => exact ⟨k + 1, by omega, by omega, by go_num, O2.out, FF.out⟩
      | false =>
        have NF : gw d (k + 1) = gw d k ++ [k] := GN.out rfl
        have NF' : Hid (gw d (k + 1) = gw d k ++ [k]) := NF
        rw [NF, List.length_append, ln.out] at MO
        have MO' : Hid (x.z.length + 1 ≤ (gw d M).length) := MO
        clear GY GN NF MO
        obtain ⟨ax, cx, zx⟩ := x
        simp only [Um.v] at *
        have LZ : Hid (zx.length = zx.length) := rfl
        by_cases h64 : zx.length = 64
        · have h64z : ((zx.length : Int) == 64) = true := by rw [h64]; rfl
          have H64 : Hid (zx.length = 64) := h64
          clear h64
          go_wp2_with fail
          refine c2.mono ?_
          rintro e w2 ⟨rfl, E2⟩
          have X2 : Hid (Ext w w2) := E.out.trans (OO.out.1.trans (AE.out.trans E2))
          clear c2 E2
          go_wp2
          go_ret2
          exact Or.inr ⟨by have := MO'.out; have := H64.out; omega, rfl, X2.out⟩
        · have h64z : ((zx.length : Int) == 64) = false := by rw [beq_eq_false_iff_ne]; omega
          go_wp2_with fail
          refine c2.mono ?_
          rintro e w2 ⟨rfl, E2⟩
          have O2 : Hid (OwnU w1 w2 (.slice ax zx.length cx) (gw d k)) := OO.out.ext (AE.out.trans E2)
          have ce3 := E2.cell ce2
          have hfl : Hid (((gw d k).length + 1) * 4 ≤ 140737488355328) := by show _ ≤ _; rw [ln.out]; omega
          clear c2 E2 OO AE ce2
          go_wp2_with (at_builtin; refine wpList_appendU rfl _ _ rfl w1 _ (.slice ax zx.length cx) (by rfl) _ O2.out k (by rfl) hfl.out ?_; intro v' w3 O3; have O3' : Hid (OwnU w1 w3 v' (gw d (k + 1))) := by (rw [NF'.out]; exact O3))
          go_roundg (M - (k + 1))
          case measure => omega
          case rel => exact ⟨k + 1, by omega, by omega, by go_num, O3'.out, by rw [NF'.out, List.length_append, ln.out]; show _ + 1 ≤ 64; omega⟩
    · obtain rfl : k = M := by omega
      have OO : Hid (OwnU w wr u7 (gw d k)) := O.out.base E.out
      have FF : Hid ((gw d k).length ≤ 64) := FW.out
      clear O FW HS MONO LT
      go_wp2
      go_ret2
      exact Or.inl ⟨_, FF.out, rfl, OO.out⟩

end Go.Proofs.Ytfcleenbhadfhac
