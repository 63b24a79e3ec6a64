/-
  huff.Lens and huff.Cost, of whatever weights; quipuref.Costs.
-/
import Derived.Test.YtakggfogoobdnaaLen
namespace Go.Proofs.Ytakggfogoobdnaa
open Go.RowKit

/-- The weight of a symbol. -/
def wof (z : List Int) (i : Nat) : Nat := (z.getD i 0).toNat

theorem wof_nat (wsl : List Nat) : wof (wsl.map (fun x : Nat => (x : Int))) = fun i => wsl.getD i 0 := by
  funext i
  simp only [wof, List.getD_eq_getElem?_getD, List.getElem?_map]
  cases wsl[i]? <;> simp

/-- A list of lengths as memory holds it. -/
def lz (l : List Nat) : List Int := l.map fun d : Nat => (d : Int)

theorem lensG_any (x : Nm) (w : World) (hx : Nums w x) (hok : werl x.z = 0) :
    Calls Try.prog 32 #[x.v] w fun e w' => ∃ (y : Nm) (l : List Nat), e = .returned (.tuple #[y.v, .int .i64 0]) ∧ y.z = lz l ∧ Nums w' y ∧ Ext w w' ∧ Best (wof x.z) x.z.length l := by
  obtain ⟨a, c, z⟩ := x
  obtain ⟨h8, wsl, hzw, hwl⟩ := werl_nat hok
  simp only at h8 hzw hok ⊢
  refine (lensOf_good a c z w hx wsl hzw h8 hok hwl).mono ?_
  rintro e w' ⟨L0, l, rfl, h1, h2, _, h4⟩
  have hl := h4.len
  refine ⟨⟨some ⟨L0, 0, none⟩, z.length, lz l⟩, l, ?_, rfl, ?_, h2, ?_⟩
  · simp [Nm.v, lz, hl]
  · have := Row.nums (z := lz l) (w := w') (B := L0) (by
      have e : (lz l).map (Value.int .i64) = dv l := by simp [lz, dv, Function.comp_def]
      rw [e]; exact h1) (by simp only [lz, List.length_map]; unfold maxLen; omega)
    have e : (lz l).length = z.length := by simp [lz, hl]
    rw [e] at this
    exact this
  · rw [hzw, wof_nat, ← hzw]
    exact h4

set_option maxHeartbeats 1000000 in
theorem lensB_any (x : Nm) (w : World) (hx : Nums w x) (hok : werl x.z ≠ 0) :
    Calls Try.prog 32 #[x.v] w fun e w' => e = .returned (.tuple #[.slice none 0 0, .int .i64 (werl x.z)]) ∧ Ext w w' := by
  have HCK := hcheck_any x w hx
  obtain ⟨a, c, z⟩ := x
  simp only [Nm.v] at *
  clear hx
  generalize werl z = r at *
  generalize z.length = n at *
  have hr : (r == 0) = false := by simpa using hok
  go_enter Try.func32, Try.ntmps32
  go_wp2_with (go_at_call 23; refine HCK.mono ?_; rintro e w1 ⟨rfl, hb⟩)
  go_ret2
  exact ⟨rfl, hb⟩

/-- What k symbols cost. -/
def cs (wt : Nat → Nat) (l : List Nat) (k : Nat) : Nat := ((List.range k).map fun i => wt i * l.getD i 0).sum

theorem cs_succ (wt : Nat → Nat) (l : List Nat) (k : Nat) : cs wt l (k + 1) = cs wt l k + wt k * l.getD k 0 := by simp [cs, List.range_succ]
theorem tc_pr (wt : Nat → Nat) (n : Nat) (l : List Nat) : tc wt (pr n l) = cs wt l n := by simp [tc, wp, pr, pc, cs, Function.comp_def]

theorem cs_le (wt : Nat → Nat) (l : List Nat) (hw : ∀ i, wt i ≤ 1048576) (hl : ∀ i, l.getD i 0 ≤ 8) : ∀ k, cs wt l k ≤ k * 8388608
  | 0 => by simp [cs]
  | k + 1 => by
    have ih := cs_le wt l hw hl k
    have : wt k * l.getD k 0 ≤ 1048576 * 8 := Nat.mul_le_mul (hw k) (hl k)
    rw [cs_succ]
    omega

theorem wof_le {z : List Int} (h : werl z = 0) (i : Nat) : wof z i ≤ 1048576 := by
  obtain ⟨h8, wsl, hzw, hwl⟩ := werl_nat h
  rw [hzw, wof_nat]
  show wsl.getD i 0 ≤ _
  rw [List.getD_eq_getElem?_getD]
  cases hq : wsl[i]? with
  | none => simp
  | some v => exact hwl v (List.mem_of_getElem? hq)

theorem wof_z {z : List Int} (h : werl z = 0) (i : Nat) : z.getD i 0 = (wof z i : Int) := by
  obtain ⟨h8, wsl, hzw, hwl⟩ := werl_nat h
  rw [hzw, wof_nat]
  simp only [List.getD_eq_getElem?_getD, List.getElem?_map]
  cases wsl[i]? <;> simp

theorem lz_z (l : List Nat) (i : Nat) : (lz l).getD i 0 = ((l.getD i 0 : Nat) : Int) := by
  simp only [lz, List.getD_eq_getElem?_getD, List.getElem?_map]
  cases l[i]? <;> simp

theorem Best.le {w : Nat → Nat} {n : Nat} {l : List Nat} (h : Best w n l) (h8 : n ≤ 8) (i : Nat) : l.getD i 0 ≤ 8 := by
  rw [List.getD_eq_getElem?_getD]
  cases hq : l[i]? with
  | none => simp
  | some v => have := h.lt v (List.mem_of_getElem? hq); simp; omega

set_option maxHeartbeats 2000000 in
theorem costG_any (x : Nm) (w : World) (hx : Nums w x) (hok : werl x.z = 0) :
    Calls Try.prog 22 #[x.v] w fun e w' => ∃ l : List Nat, e = .returned (.tuple #[.int .i64 (tc (wof x.z) (pr x.z.length l) : Nat), .int .i64 0]) ∧ Ext w w' ∧ Best (wof x.z) x.z.length l := by
  have HL := lensG_any x w hx hok
  have h8 := (werl_nat hok).1
  have hW := wof_le hok
  have hWz := wof_z hok
  have HX : Hid (Nums w x) := hx
  obtain ⟨a, c, z⟩ := x
  simp only [Nm.v] at *
  obtain ⟨n, hn⟩ : ∃ n, z.length = n := ⟨_, rfl⟩
  have HN : Hid (z.length = n) := hn
  have HW : Hid (∀ i, wof z i ≤ 1048576) := hW
  have HWZ : Hid (∀ i, z.getD i 0 = (wof z i : Int)) := hWz
  rw [hn] at HL h8 ⊢
  clear hn hx hok hW hWz
  go_enter Try.func22, Try.ntmps22
  go_wp2_with fail
  refine HL.mono ?_
  rintro e w1 ⟨y, l, rfl, hyl, hy, hE, hB⟩
  obtain ⟨ya, yc, yz⟩ := y
  simp only at hyl hy ⊢
  subst hyl
  have hll : (lz l).length = n := by simp [lz, hB.len]
  rw [hll]
  have HB : Hid (Best (wof z) n l) := hB
  have NY : Hid (Nums w1 ⟨ya, yc, lz l⟩) := hy
  have NX : Hid (Nums w1 ⟨a, c, z⟩) := HX.out.ext hE
  have EE : Hid (Ext w w1) := hE
  obtain ⟨p1, p2, _, pb, po, p4, p5⟩ := hy
  obtain ⟨q1, q2, _, qb, qo, q4, q5⟩ := NX.out
  simp only [hll] at p1 p2 p4 p5 q1 q2 q4 q5
  rw [HN.out] at q1 q4 q5
  have P5 : Hid (∀ i, i < n → w1.cell? ⟨pb, po + i, none⟩ = some (.int .i64 ((lz l).getD i 0))) := p5
  have Q5 : Hid (∀ i, i < n → w1.cell? ⟨qb, qo + i, none⟩ = some (.int .i64 (z.getD i 0))) := q5
  unfold maxLen at p2 q2
  clear HL hB hE hll p5 q5 HX
  go_wp2
  go_loopg [6, 7, 8, 19] n (fun gg s6 _ _ s19 wr => wr = w1 ∧ ∃ k c' : Nat, k ≤ n ∧ n - k ≤ gg ∧ s19 = .int .i64 k ∧ s6 = .int .i64 c' ∧ Aside (c' = cs (wof z) l k))
  case atStart => exact ⟨rfl, 0, 0, by omega, by omega, rfl, rfl, rfl⟩
  case round =>
    obtain ⟨rfl, k, c', hk, hgg, rfl, rfl, A⟩ := hrel
    by_cases hlt : k < n
    · have hltz : (k : Int) < (n : Int) := by omega
      obtain rfl := p4 (by omega)
      obtain rfl := q4 (by omega)
      have e1 := P5.out k hlt
      have e2 := Q5.out k hlt
      rw [lz_z] at e1
      rw [HWZ.out k] at e2
      have hcb : c' ≤ 67108864 := by
        rw [A.out]
        have := cs_le (wof z) l HW.out (HB.out.le h8) k
        omega
      have hs := cs_succ (wof z) l k
      rw [← A.out] at hs
      have hpb : wof z k * l.getD k 0 ≤ 1048576 * 8 := Nat.mul_le_mul (HW.out k) (HB.out.le h8 k)
      have hm : ((l.getD k 0 : Nat) : Int) * (wof z k : Int) = ((wof z k * l.getD k 0 : Nat) : Int) := by rw [Nat.mul_comm, Int.natCast_mul]
      generalize wof z k * l.getD k 0 = p at hs hpb hm
      generalize l.getD k 0 = d at e1 hm
      generalize wof z k = u at e2 hm
      have HS : Hid (c' + p = cs (wof z) l (k + 1)) := hs.symm
      clear A hs
      go_wp2
      go_roundg (n - (k + 1))
      case measure => omega
      case rel => exact ⟨rfl, k + 1, c' + p, by omega, by omega, by go_num, by go_num, HS.out⟩
    · have hkn : k = n := by omega
      subst hkn
      have F : Hid (c' = tc (wof z) (pr k l)) := by show _ = _; rw [tc_pr]; exact A.out
      clear A
      go_wp2
      go_ret2
      refine ⟨l, ?_, EE.out, HB.out⟩
      rw [← F.out]
      rfl

set_option maxHeartbeats 1000000 in
theorem costB_any (x : Nm) (w : World) (hx : Nums w x) (hok : werl x.z ≠ 0) :
    Calls Try.prog 22 #[x.v] w fun e w' => e = .returned (.tuple #[.int .i64 0, .int .i64 (werl x.z)]) ∧ Ext w w' := by
  have HL := lensB_any x w hx hok
  obtain ⟨a, c, z⟩ := x
  simp only [Nm.v] at *
  clear hx
  generalize werl z = r at *
  generalize z.length = n at *
  have hr : (r == 0) = false := by simpa using hok
  go_enter Try.func22, Try.ntmps22
  go_wp2_with (go_at_call 32; refine HL.mono ?_; rintro e w1 ⟨rfl, hb⟩)
  go_ret2
  exact ⟨rfl, hb⟩

end Go.Proofs.Ytakggfogoobdnaa
