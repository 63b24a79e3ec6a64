/-
  span.sumOf with a function value that tells which rows are in; the closure of span.sums; quipuref.Sum, quipuref.Odd.
-/
import Derived.Test.YtdfjjjcaibadoabDoorRk
import Derived.Test.YtdfjjjcaibadoabDoorSm
import Derived.Shelf.Abstract
namespace Go.Proofs.YtdfjjjcaibadoabDoor
open Go.RowKit

theorem getD_get {g : List Nat} {i : Nat} (h : i < g.length) : g.getD i 0 = g[i] := by
  rw [List.getD_eq_getElem?_getD, List.getElem?_eq_getElem h]; rfl

/-- A function value that answers p of each of the first m places, whatever has been laid since. -/
def PredI (w : World) (f : Nat) (lb : Array Value) (p : Nat → Bool) (m : Nat) : Prop :=
  ∀ (W : World) (k : Nat), k < m → Ext w W → Calls Tryd.prog f (#[.int .i64 (k : Nat)] ++ lb) W fun e w' => e = .returned (.bool (p k)) ∧ Ext W w'

theorem sP_32 {g : List Nat} (hb : ∀ y ∈ g, y < 4294967296) (p : Nat → Bool) {k : Nat} (hk : k ≤ g.length) : sP g p k < 4294967296 :=
  sP_lt (n := 32) (fun x hx => hb x hx) p k hk

theorem sumOf_any (x : Um) (f : Nat) (lb : Array Value) (p : Nat → Bool) (hl : x.z.length ≤ 1000) (hb : ∀ y ∈ x.z, y < 4294967296) (w : World)
    (eg : ∀ args w, (callFunc f args).run Tryd.prog w = .ok (.enter f args) w) (hx : Us w x) (hp : PredI w f lb p x.z.length) :
    Calls Tryd.prog 23 #[x.v, .func (.func f) #[] lb] w fun e w' => e = .returned (.int .u32 (sP x.z p x.z.length : Nat)) ∧ Ext w w' := by
  obtain ⟨a, c, g⟩ := x
  obtain ⟨h1, h2, _, b, o, h4, h5⟩ := hx
  simp only at hl hb h1 h2 h4 h5 hp
  simp only [Um.v]
  have H5 : Hid (∀ i, i < g.length → w.cell? ⟨b, o + i, none⟩ = some (.int .u32 (g.getD i 0 : Nat))) := h5
  have HB : Hid (∀ i, i < g.length → g.getD i 0 < 4294967296) := fun i hi => by rw [getD_get hi]; exact hb _ (List.getElem_mem hi)
  have HS : Hid (∀ k, k ≤ g.length → sP g p k < 4294967296) := fun k hk => sP_32 hb p hk
  have HP : Hid (PredI w f lb p g.length) := hp
  clear h5 hb hp h2
  obtain ⟨m, hm⟩ : ∃ m, g.length = m := ⟨_, rfl⟩
  rw [hm] at h1 h4 H5 HB HS HP hl ⊢
  clear hm
  go_enter Tryd.func23, Tryd.ntmps23
  go_wp2
  go_loopg [5, 10] m (fun gg s5 s10 wr => ∃ k : Nat, k ≤ m ∧ m - k ≤ gg ∧ s5 = .int .u32 (sP g p k : Nat) ∧ s10 = .int .i64 k ∧ Aside (Ext w wr))
  case atStart => exact ⟨0, Nat.zero_le _, by omega, rfl, rfl, Ext.refl w⟩
  case round =>
    obtain ⟨k, hk, hg, rfl, rfl, E⟩ := hrel
    by_cases hlt : k < m
    · have hltz : (k : Int) < (m : Int) := by omega
      obtain rfl := h4 (by omega)
      have e1 := E.out.cell (H5.out k hlt)
      have b1 := HB.out k hlt
      have s1 := HS.out k hk
      have s2 := HS.out (k + 1) hlt
      have c1 := HP.out wr k hlt E.out
      have nx : sP g p (k + 1) = if p k then sP g p k ^^^ g.getD k 0 else sP g p k := rfl
      have xo := u32_xor_nat (sP g p k) (g.getD k 0) s1 b1
      cases hq : p k
      · rw [hq] at nx c1
        have NX : Hid (sP g p (k + 1) = sP g p k) := nx
        clear nx s2 xo hq
        generalize sP g p k = A at *
        generalize g.getD k 0 = y at *
        go_wp2_with (go_at_fn f; refine c1.mono ?_; rintro e w1 ⟨rfl, E1⟩)
        go_roundg (m - (k + 1))
        case measure => omega
        case rel => exact ⟨k + 1, by omega, by omega, by rw [NX.out], by go_num, E.out.trans E1⟩
      · rw [hq] at nx c1
        have NX : Hid (sP g p (k + 1) = sP g p k ^^^ g.getD k 0) := nx
        clear nx s2 hq
        generalize sP g p k = A at *
        generalize g.getD k 0 = y at *
        go_wp2_with (go_at_fn f; refine c1.mono ?_; rintro e w1 ⟨rfl, E1⟩)
        go_roundg (m - (k + 1))
        case measure => omega
        case rel => exact ⟨k + 1, by omega, by omega, by rw [NX.out], by go_num, E.out.trans E1⟩
    · obtain rfl : k = m := by omega
      go_wp2
      go_ret
      exact ⟨rfl, E.out⟩

theorem bit_one (x k : Nat) (hx : x < 4294967296) : (bits BinOp.and IntKind.u32 ((x / 2 ^ k : Nat) : Int) 1 == 1) = x.testBit k := by
  have h1 : x / 2 ^ k < 4294967296 := Nat.lt_of_le_of_lt (Nat.div_le_self _ _) hx
  have e := u32_and_nat (x / 2 ^ k) 1 h1 (by omega)
  rw [show ((1 : Nat) : Int) = 1 from rfl] at e
  rw [e, Nat.and_one_is_mod, Nat.testBit_eq_decide_div_mod_eq]
  rcases Nat.mod_two_eq_zero_or_one (x / 2 ^ k) with h | h
  · rw [h]; rfl
  · rw [h]; rfl

/-- The closure of span.sums: whether the choice has the bit. -/
theorem chosen_any (x k : Nat) (hx : x < 4294967296) (hk : k < 32) (p : Addr) (w : World) (h : w.cell? p = some (.int .u32 (x : Nat))) :
    Calls Tryd.prog 22 #[.int .i64 (k : Nat), .pointer (some p)] w fun e w' => e = .returned (.bool (x.testBit k)) ∧ Ext w w' := by
  have e := bit_one x k hx
  have E : Hid (((x / 2 ^ k : Nat) : Int) = (x : Int) / 2 ^ k) := by
    show _ = _
    rw [Int.natCast_ediv]
    simp
  have EE : Hid ((bits BinOp.and IntKind.u32 ((x / 2 ^ k : Nat) : Int) 1 == 1) = x.testBit k) := e
  clear e
  go_enter Tryd.func22, Tryd.ntmps22
  go_wp2
  go_ret
  exact ⟨ret_bool (by rw [← E.out]; exact EE.out), Ext.refl w⟩

theorem refSum_any (x : Um) (s : Nat) (hs : s < 4294967296) (hl : x.z.length ≤ 32) (hb : ∀ y ∈ x.z, y < 4294967296) (w : World) (hx : Us w x) :
    Calls Tryd.prog 20 #[x.v, .int .u32 (s : Nat)] w fun e w' => e = .returned (.int .u32 (sm x.z s : Nat)) ∧ w' = w := by
  obtain ⟨a, c, g⟩ := x
  obtain ⟨h1, h2, _, b, o, h4, h5⟩ := hx
  simp only at hl hb h1 h2 h4 h5
  simp only [Um.v]
  have H5 : Hid (∀ i, i < g.length → w.cell? ⟨b, o + i, none⟩ = some (.int .u32 (g.getD i 0 : Nat))) := h5
  have HB : Hid (∀ i, i < g.length → g.getD i 0 < 4294967296) := fun i hi => by rw [getD_get hi]; exact hb _ (List.getElem_mem hi)
  have HS : Hid (∀ k, k ≤ g.length → sP g (fun i => s.testBit i) k < 4294967296) := fun k hk => sP_32 hb _ hk
  have HP : Hid (∀ W k, k < 32 → Calls Tryd.prog 30 #[.int .u32 (s : Nat), .int .i64 (k : Nat)] W fun e w' => e = .returned (.bool (s.testBit k)) ∧ w' = W) := fun W k hk => bit_any s k hs hk W
  have NX : Hid (∀ k, sP g (fun i => s.testBit i) (k + 1) = if s.testBit k then sP g (fun i => s.testBit i) k ^^^ g.getD k 0 else sP g (fun i => s.testBit i) k) := fun _ => rfl
  unfold sm
  clear h5 hb h2
  obtain ⟨m, hm⟩ : ∃ m, g.length = m := ⟨_, rfl⟩
  rw [hm] at h1 h4 H5 HB HS hl ⊢
  clear hm
  generalize hF : sP g (fun i => s.testBit i) = F at *
  have F0 : Hid (F 0 = 0) := by show _ = _; rw [← hF]; rfl
  clear hF
  go_enter Tryd.func20, Tryd.ntmps20
  go_wp2
  go_loopg [5, 10] m (fun gg s5 s10 wr => ∃ k : Nat, k ≤ m ∧ m - k ≤ gg ∧ s5 = .int .u32 (F k : Nat) ∧ s10 = .int .i64 k ∧ wr = w)
  case atStart => exact ⟨0, Nat.zero_le _, by omega, by rw [F0.out]; rfl, rfl, rfl⟩
  case round =>
    obtain ⟨k, hk, hg, rfl, rfl, rfl⟩ := hrel
    clear F0
    by_cases hlt : k < m
    · have hltz : (k : Int) < (m : Int) := by omega
      obtain rfl := h4 (by omega)
      have e1 := H5.out k hlt
      have b1 := HB.out k hlt
      have s1 := HS.out k hk
      have c1 := HP.out wr k (by omega)
      have nx := NX.out k
      have xo := u32_xor_nat (F k) (g.getD k 0) s1 b1
      cases hq : s.testBit k
      · rw [hq] at nx c1
        have NX2 : Hid (F (k + 1) = F k) := nx
        clear nx xo hq NX
        generalize F k = A at *
        generalize g.getD k 0 = y at *
        go_wp2_with fail
        refine c1.mono ?_
        rintro e w1 ⟨rfl, rfl⟩
        clear c1
        go_wp2
        go_roundg (m - (k + 1))
        case measure => omega
        case rel => exact ⟨k + 1, by omega, by omega, by rw [NX2.out], by go_num, rfl⟩
      · rw [hq] at nx c1
        have NX2 : Hid (F (k + 1) = F k ^^^ g.getD k 0) := nx
        clear nx hq NX
        generalize F k = A at *
        generalize g.getD k 0 = y at *
        go_wp2_with fail
        refine c1.mono ?_
        rintro e w1 ⟨rfl, rfl⟩
        clear c1
        go_wp2
        go_roundg (m - (k + 1))
        case measure => omega
        case rel => exact ⟨k + 1, by omega, by omega, by rw [NX2.out], by go_num, rfl⟩
    · obtain rfl : k = m := by omega
      go_wp2
      go_ret
      exact ⟨rfl, rfl⟩

end Go.Proofs.YtdfjjjcaibadoabDoor
