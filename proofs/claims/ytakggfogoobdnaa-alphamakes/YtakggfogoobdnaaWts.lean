/-
  Weights: what quipuref.WeightsCheck, huff.check and quipukeep.weighed answer.
-/
import Derived.Test.YtakggfogoobdnaaNum
namespace Go.Proofs.Ytakggfogoobdnaa
open Go.RowKit

def outW (n : Int) : Bool := decide (n < 0) || decide (1048576 < n)
/-- What is wrong with weights. -/
def werl (z : List Int) : Int := if 8 < z.length then 1 else if z.any outW then 4 else 0
theorem werl_long {z : List Int} (h : 8 < z.length) : werl z = 1 := by simp [werl, h]
theorem werl_any {z : List Int} (h : z.length ≤ 8) (h' : z.any outW = true) : werl z = 4 := by
  simp [werl, Nat.not_lt.2 h, h']
theorem werl_ok {z : List Int} (h : z.length ≤ 8) (h' : z.any outW = false) : werl z = 0 := by
  simp [werl, Nat.not_lt.2 h, h']
theorem werl_cases (z : List Int) : (8 < z.length ∧ werl z = 1) ∨ (z.length ≤ 8 ∧ z.any outW = true ∧ werl z = 4) ∨ (z.length ≤ 8 ∧ z.any outW = false ∧ werl z = 0) := by
  rcases Nat.lt_or_ge 8 z.length with h | h
  · exact .inl ⟨h, werl_long h⟩
  · cases h' : z.any outW with
    | true => exact .inr (.inl ⟨h, rfl, werl_any h h'⟩)
    | false => exact .inr (.inr ⟨h, rfl, werl_ok h h'⟩)
/-- Weights that may be are numbers. -/
theorem werl_nat {z : List Int} (h : werl z = 0) : z.length ≤ 8 ∧ ∃ ws : List Nat, z = ws.map (fun x : Nat => (x : Int)) ∧ ∀ x ∈ ws, x ≤ 1048576 := by
  rcases werl_cases z with ⟨_, h2⟩ | ⟨_, _, h2⟩ | ⟨h1, h3, _⟩
  · omega
  · omega
  · refine ⟨h1, z.map Int.toNat, ?_, ?_⟩
    · rw [List.map_map]
      have : ∀ x ∈ z, ((fun x : Nat => (x : Int)) ∘ Int.toNat) x = x := fun x hx => by
        have := List.any_eq_false.1 h3 x hx
        simp [outW] at this ⊢
        omega
      rw [List.map_congr_left this]
      simp
    · intro x hx
      obtain ⟨y, hy, rfl⟩ := List.mem_map.1 hx
      have := List.any_eq_false.1 h3 y hy
      simp [outW] at this
      omega

set_option maxHeartbeats 400000 in
theorem indexW_any (a : Option Addr) (c : Nat) (g : List Int) (f : Nat) (lb : Array Value) (p : Int → Bool) (w : World)
    (eg : ∀ args w, (callFunc f args).run Try.prog w = .ok (.enter f args) w) (hg : Nums w ⟨a, c, g⟩) (hp : PredInt w f lb p g) :
    Calls Try.prog 45 #[.slice a g.length c, .func (.func f) #[] lb] w fun e w' => e = .returned (.int .i64 (firstOf p g)) ∧ Ext w w' := by
  obtain ⟨h1, h2, _, b, o, h4, h5'⟩ := hg
  simp only at h1 h2 h4 h5'
  have h5 : ∀ i (h : i < g.length), w.cell? ⟨b, o + i, none⟩ = some (.int .i64 g[i]) := fun i h => by
    have := h5' i h
    rwa [List.getD_eq_getElem?_getD, List.getElem?_eq_getElem h] at this
  clear h5'
  unfold maxLen at h2
  have L : ∃ n, g.length = n := ⟨_, rfl⟩
  obtain ⟨n, hn⟩ := L
  have HN : Hid (g.length = n) := hn
  rw [hn] at h1 h4 ⊢
  clear hn
  have H5 : Hid (∀ i (h : i < g.length), w.cell? ⟨b, o + i, none⟩ = some (.int .i64 g[i])) := h5
  have HP : Hid (PredInt w f lb p g) := hp
  clear h5 hp
  go_enter Try.func45, Try.ntmps45
  go_wp2
  go_loopg [5, 8] n (fun gg _ s8 wr => ∃ k : Nat, k ≤ n ∧ n - k ≤ gg ∧ s8 = .int .i64 k ∧ Aside (Ext w wr) ∧ Aside (∀ j (hj : j < g.length), j < k → p g[j] = false))
  case atStart => exact ⟨0, Nat.zero_le _, by omega, rfl, Ext.refl w, fun j hj h => absurd h (Nat.not_lt_zero _)⟩
  case round =>
    obtain ⟨k, hk, hgg, rfl, BW, A⟩ := hrel
    by_cases hlt : k < n
    · have hltz : (k : Int) < (n : Int) := by omega
      obtain rfl := h4 (by omega)
      have hkl : k < g.length := by rw [HN.out]; exact hlt
      have e1 := BW.out.cell (H5.out k hkl)
      have hcall := HP.out wr g[k] (List.getElem_mem hkl) BW.out
      have hit : Aside (p g[k] = true → firstOf p g = k) := fun h => firstOf_hit p g k hkl h A.out
      have miss : Aside (p g[k] = false → ∀ j (hj : j < g.length), j < k + 1 → p g[j] = false) := fun h j hj hj' => by
        rcases Nat.lt_succ_iff_lt_or_eq.1 hj' with h' | rfl
        · exact A.out j hj h'
        · exact h
      generalize hy : g[k] = y at e1 hcall hit miss
      clear h4 hy
      cases hq : p y with
      | true =>
        rw [hq] at hcall
        have hf : Hid (firstOf p g = k) := hit.out hq
        clear hq hit miss
        go_wp2_with (go_at_fn f; refine hcall.mono ?_; rintro e w' ⟨rfl, hb'⟩)
        go_ret
        exact ⟨ret_int hf.out.symm, BW.out.trans hb'⟩
      | false =>
        rw [hq] at hcall
        have hf : Aside (∀ j (hj : j < g.length), j < k + 1 → p g[j] = false) := miss.out hq
        clear hq hit miss
        go_wp2_with (go_at_fn f; refine hcall.mono ?_; rintro e w' ⟨rfl, hb'⟩)
        go_roundg (n - (k + 1))
        case measure => omega
        case rel => exact ⟨k + 1, by omega, by omega, by go_num, BW.out.trans hb', hf.out⟩
    · have hm : Aside (firstOf p g = -1) := firstOf_miss p g (fun j hj => A.out j hj (by have := HN.out; omega))
      go_wp2
      go_ret
      exact ⟨ret_int hm.out.symm, BW.out⟩

set_option maxHeartbeats 400000 in
theorem containsW_any (a : Option Addr) (c : Nat) (g : List Int) (f : Nat) (lb : Array Value) (p : Int → Bool) (w : World)
    (eg : ∀ args w, (callFunc f args).run Try.prog w = .ok (.enter f args) w) (hg : Nums w ⟨a, c, g⟩) (hp : PredInt w f lb p g) :
    Calls Try.prog 34 #[.slice a g.length c, .func (.func f) #[] lb] w fun e w' => e = .returned (.bool (g.any p)) ∧ Ext w w' := by
  have hc := indexW_any a c g f lb p w eg hg hp
  rw [← firstOf_any]
  clear hg hp eg
  generalize g.length = n at *
  generalize firstOf p g = r at *
  go_enter Try.func34, Try.ntmps34
  go_wp2_with (go_at_call 45; refine hc.mono ?_; rintro e w' ⟨rfl, hb⟩)
  go_ret
  exact ⟨rfl, hb⟩



set_option maxHeartbeats 400000 in
theorem heavy_any (n : Int) (w : World) : Calls Try.prog 33 (#[.int .i64 n] ++ #[]) w fun e w' => e = .returned (.bool (outW n)) ∧ Ext w w' := by
  show Calls Try.prog 33 #[.int .i64 n] w _
  by_cases h0 : n < 0
  · have hs : outW n = true := by simp [outW, h0]
    rw [hs]
    clear hs
    go_enter Try.func33, Try.ntmps33
    go_wp2
    go_ret
    exact ⟨rfl, Ext.refl w⟩
  · have hs : outW n = decide (1048576 < n) := by simp [outW, h0]
    rw [hs]
    clear hs
    go_enter Try.func33, Try.ntmps33
    go_wp2
    go_ret
    exact ⟨rfl, Ext.refl w⟩

set_option maxHeartbeats 1000000 in
theorem weightsCheck_any (z : Nm) (w : World) (hz : Nums w z) :
    Calls Try.prog 10 #[z.v] w fun e w' => e = .returned (.int .i64 (werl z.z)) ∧ w' = w := by
  obtain ⟨k1, k2, _, zb, zo, k4, k5⟩ := hz
  obtain ⟨za, zc, zz⟩ := z
  simp only [Nm.v] at *
  by_cases h : 8 < zz.length
  · rw [werl_long h]
    clear k5
    generalize zz.length = m at *
    have hz : (8 : Int) < (m : Int) := by omega
    go_enter Try.func10, Try.ntmps10
    go_wp2
    go_ret
    exact ⟨rfl, rfl⟩
  · have R : ∃ r, werl zz = r := ⟨_, rfl⟩
    obtain ⟨r, hr⟩ := R
    have HR : Hid (werl zz = r) := hr
    rw [hr]
    clear hr
    have H8 : Hid (zz.length ≤ 8) := Nat.le_of_not_lt h
    obtain ⟨m, hm⟩ : ∃ m, zz.length = m := ⟨_, rfl⟩
    have HM : Hid (zz.length = m) := hm
    have K5 : Hid (∀ i (h : i < zz.length), w.cell? ⟨zb, zo + i, none⟩ = some (.int .i64 zz[i])) := fun i h => by
      have := k5 i h
      rwa [List.getD_eq_getElem?_getD, List.getElem?_eq_getElem h] at this
    unfold maxLen at k2
    rw [hm] at k1 k4 h ⊢
    have hz : ¬ (8 : Int) < (m : Int) := by omega
    clear hm k5
    go_enter Try.func10, Try.ntmps10
    go_wp2
    go_loopg [4, 10] m (fun gg _ s wr => wr = w ∧ ∃ k : Nat, k ≤ m ∧ m - k ≤ gg ∧ s = .int .i64 k ∧ Aside (∀ j (hj : j < zz.length), j < k → outW zz[j] = false))
    case atStart => exact ⟨rfl, 0, Nat.zero_le _, by omega, rfl, fun j hj h => absurd h (Nat.not_lt_zero _)⟩
    case round =>
      obtain ⟨rfl, k, hk, hgg, rfl, A⟩ := hrel
      by_cases hlt : k < m
      · have hltz : (k : Int) < (m : Int) := by omega
        obtain rfl := k4 (by omega)
        have hkl : k < zz.length := by rw [HM.out]; exact hlt
        have e1 := K5.out k hkl
        have bad : Aside (outW zz[k] = true → r = 4) := fun h => by
          rw [← HR.out]
          exact werl_any H8.out (List.any_eq_true.2 ⟨zz[k], List.getElem_mem hkl, h⟩)
        have good : Aside (outW zz[k] = false → ∀ j (hj : j < zz.length), j < k + 1 → outW zz[j] = false) := fun h j hj hj' => by
          rcases Nat.lt_succ_iff_lt_or_eq.1 hj' with h' | rfl
          · exact A.out j hj h'
          · exact h
        generalize hy : zz[k] = y at e1 bad good
        clear h k4 hy
        by_cases y0 : y < 0
        · have bd : Hid (r = 4) := bad.out (by simp [outW, y0])
          clear bad good
          go_wp2
          go_ret
          exact ⟨ret_int bd.out.symm, rfl⟩
        · by_cases y8 : 1048576 < y
          · have bd : Hid (r = 4) := bad.out (by simp [outW, y8])
            clear bad good
            go_wp2
            go_ret
            exact ⟨ret_int bd.out.symm, rfl⟩
          · have gd : Hid (∀ j (hj : j < zz.length), j < k + 1 → outW zz[j] = false) := good.out (by simp [outW]; omega)
            clear bad good
            go_wp2
            go_roundg (m - (k + 1))
            case measure => omega
            case rel => exact ⟨rfl, k + 1, by omega, by omega, by go_num, gd.out⟩
      · have fin : Hid (r = 0) := by
          show _ = _
          rw [← HR.out]
          refine werl_ok H8.out (List.any_eq_false.2 (fun x hx => ?_))
          obtain ⟨j, hj, rfl⟩ := List.mem_iff_getElem.1 hx
          have := A.out j hj (by have := HM.out; omega)
          simpa using this
        go_wp2
        go_ret
        exact ⟨ret_int fin.out.symm, rfl⟩


set_option maxHeartbeats 1000000 in
theorem weighed_any (z : Nm) (w : World) (hz : Nums w z) : Calls Try.prog 18 #[z.v] w fun e w' => e = .returned (.bool (werl z.z == 0)) ∧ w' = w := by
  have hc := weightsCheck_any z w hz
  clear hz
  obtain ⟨za, zc, zz⟩ := z
  simp only [Nm.v] at *
  generalize werl zz = r at *
  generalize zz.length = m at *
  go_enter Try.func18, Try.ntmps18
  go_wp2_with (go_at_call 10; refine hc.mono ?_; rintro e w' ⟨rfl, rfl⟩)
  go_ret
  exact ⟨rfl, rfl⟩

set_option maxHeartbeats 1000000 in
theorem hcheck_any (z : Nm) (w : World) (hz : Nums w z) : Calls Try.prog 23 #[z.v] w fun e w' => e = .returned (.int .i64 (werl z.z)) ∧ Ext w w' := by
  have eg : ∀ args w, (callFunc 33 args).run Try.prog w = .ok (.enter 33 args) w := enters_of Try.func33 (by kernel_rfl) rfl
  obtain ⟨za, zc, zz⟩ := z
  have hc := containsW_any za zc zz 33 #[] outW w eg hz (fun W x _ _ => heavy_any x W)
  obtain ⟨k1, k2, _⟩ := hz
  simp only [Nm.v] at *
  unfold maxLen at k2
  by_cases h : 8 < zz.length
  · rw [werl_long h]
    clear hc
    generalize zz.length = m at *
    have hz : (8 : Int) < (m : Int) := by omega
    go_enter Try.func23, Try.ntmps23
    go_wp2
    go_ret
    exact ⟨rfl, Ext.refl w⟩
  · have HR : Hid (werl zz = if zz.any outW then 4 else 0) := by show _ = _; simp [werl, h]
    rw [HR.out]
    clear HR
    generalize zz.any outW = r at *
    have hz : ¬ (8 : Int) < (zz.length : Int) := by omega
    clear h
    generalize zz.length = m at *
    cases r with
    | true =>
      go_enter Try.func23, Try.ntmps23
      go_wp2_with (go_at_call 34; refine hc.mono ?_; rintro e w' ⟨rfl, hb⟩)
      go_ret
      exact ⟨rfl, hb⟩
    | false =>
      go_enter Try.func23, Try.ntmps23
      go_wp2_with (go_at_call 34; refine hc.mono ?_; rintro e w' ⟨rfl, hb⟩)
      go_ret
      exact ⟨rfl, hb⟩

end Go.Proofs.Ytakggfogoobdnaa
