/-
  muller.voteOn's map: of each part's key, how many bits of the part are set.
-/
import Derived.Test.YtakojkekelhobaaSo
import Derived.Maps.OwnSet
import Derived.Maps.OwnOps
import Derived.Maps.RangeWalk
namespace Go.Proofs.Ytakojkekelhobaa
open Go.RowKit Go.Maps
set_option linter.unusedVariables false

/-- The part of x. -/
def ky (p x : Nat) : Nat := x - (x &&& p)
/-- Has a part come up among the first k? -/
def kh (p : Nat) : Nat → Nat → Bool
  | 0, _ => false
  | k + 1, o => kh p k o || ky p k == o
/-- How many bits of a part are set among the first k. -/
def kc (l : Nat → Bool) (p k o : Nat) : Nat := ct (fun x => ky p x == o && l x) k

theorem kc_hit {l : Nat → Bool} {p k o : Nat} (h : ky p k = o) : kc l p (k + 1) o = kc l p k o + (if l k then 1 else 0) := by
  show ct _ k + (if (ky p k == o && l k) = true then 1 else 0) = _
  rw [show (ky p k == o) = true from beq_iff_eq.2 h, Bool.true_and]; rfl
theorem kc_miss {l : Nat → Bool} {p k o : Nat} (h : ¬ ky p k = o) : kc l p (k + 1) o = kc l p k o := by
  show ct _ k + (if (ky p k == o && l k) = true then 1 else 0) = _
  rw [show (ky p k == o) = false from beq_eq_false_iff_ne.2 h]; rfl
theorem kh_hit {p k o : Nat} (h : ky p k = o) : kh p (k + 1) o = true := by
  show (kh p k o || ky p k == o) = true
  rw [beq_iff_eq.2 h, Bool.or_true]
theorem kh_miss {p k o : Nat} (h : ¬ ky p k = o) : kh p (k + 1) o = kh p k o := by
  show (kh p k o || ky p k == o) = _
  rw [show (ky p k == o) = false from beq_eq_false_iff_ne.2 h, Bool.or_false]
theorem kc_le (l : Nat → Bool) (p k o : Nat) : kc l p k o ≤ k := ct_le _ k
theorem ky_le (p x : Nat) : ky p x ≤ x := Nat.sub_le _ _

/-- A place set anew. -/
theorem ct_put {f g : Nat → Bool} {j : Nat} {b : Bool} (hj : f j = false) (hb : g j = b) : ∀ n, j < n → (∀ i, i < n → i ≠ j → g i = f i) → ct g n = ct f n + (if b then 1 else 0)
  | 0, h, _ => by omega
  | n + 1, h, h2 => by
    show ct g n + (if g n = true then 1 else 0) = ct f n + (if f n = true then 1 else 0) + _
    by_cases e : j = n
    · subst e
      rw [hj, hb, ct_congr j (fun i hi => h2 i (by omega) (by omega))]
      simp
    · rw [ct_put hj hb n (by omega) (fun i hi => h2 i (by omega)), h2 n (by omega) (fun h => e h.symm)]
      omega
theorem xs_ct (f : Nat → Bool) : ∀ n, xs f n = (ct f n % 2 == 1)
  | 0 => rfl
  | n + 1 => by
    show (xs f n != f n) = ((ct f n + (if f n = true then 1 else 0)) % 2 == 1)
    rw [xs_ct f n]
    cases f n
    · simp
    · rcases Nat.mod_two_eq_zero_or_one (ct f n) with h | h
      · have : (ct f n + 1) % 2 = 1 := by omega
        simp [h, this]
      · have : (ct f n + 1) % 2 = 0 := by omega
        simp [h, this]

theorem kh_all : ∀ m : Fin 5, ∀ p : Fin 16, ∀ o : Fin 16, p.val < 2 ^ m.val → kh p.val (2 ^ m.val) o.val = (decide (o.val < 2 ^ m.val) && o.val &&& p.val == 0) := by decide +kernel
theorem kh_many : ∀ m : Fin 5, ∀ p : Fin 16, p.val < 2 ^ m.val → ct (kh p.val (2 ^ m.val)) 16 = all p.val (2 ^ m.val) := by decide +kernel
theorem kh_lt {p : Nat} : ∀ {k o : Nat}, kh p k o = true → o < k
  | 0, _, h => by cases h
  | k + 1, o, h => by
    have h' : (kh p k o || ky p k == o) = true := h
    rw [Bool.or_eq_true, beq_iff_eq] at h'
    rcases h' with h' | h'
    · have := kh_lt h'; omega
    · have := ky_le p k; omega

theorem law43 : Keyed Try.prog 43 := int_keyed Try.underlying43
theorem zero3 (w : World) : (zeroValue 3).run Try.prog w = .ok (.int .i64 0) w := by kernel_rfl
theorem under59 : Try.prog.underlying 59 = some (.map 43 3) := by kernel_rfl
theorem u32_lim : IntKind.u32.min = 0 ∧ IntKind.u32.max = 4294967295 := by decide
theorem i64_lim : IntKind.i64.min = -9223372036854775808 ∧ IntKind.i64.max = 9223372036854775807 := by decide
theorem u32_wf {x : Nat} (h : x < 4294967296) : (Lit.int .u32 (x : Int)).wf = true := by
  simp only [Lit.wf, u32_lim, Bool.and_eq_true, decide_eq_true_eq]
  omega
theorem i64_wf {x : Nat} (h : x < 4294967296) : (Lit.int .i64 (x : Int)).wf = true := by
  simp only [Lit.wf, i64_lim, Bool.and_eq_true, decide_eq_true_eq]
  omega
theorem u32_nat {x : Int} (h : (Lit.int .u32 x).wf = true) : ∃ q : Nat, x = q := by
  simp only [Lit.wf, u32_lim, Bool.and_eq_true, decide_eq_true_eq] at h
  exact ⟨x.toNat, by omega⟩

/-- What a map tells of the first k bits. -/
def Says (l : Nat → Bool) (p k : Nat) (D : DataW Unit) : Prop :=
  (∀ o : Nat, D.atKey (.int .u32 (o : Int)) (.lit (.int .i64 0)) = .lit (.int .i64 ((kc l p k o : Nat) : Int)) ∧ Maps.has D (.int .u32 (o : Int)) = kh p k o) ∧ Maps.size D = ct (kh p k) 16

/-- The block is a map that tells of the first k bits. -/
def VM (l : Nat → Bool) (p : Nat) (w : World) (B k : Nat) : Prop := ∃ (n : Nat) (D : DataW Unit), n ≤ k ∧ w.ownsMap Try.prog 43 (plainElem Try.prog 3) B n D ∧ Says l p k D

theorem VM.made (l : Nat → Bool) (p : Nat) (w : World) : VM l p (w.alloc (.map #[] 0)) w.heap.size 0 :=
  ⟨0, .map [], Nat.le_refl _, World.ownsMap_made _ _ _ _, fun o => ⟨by simp [DataW.atKey, kc, ct], by simp [Maps.has, kh]⟩, by
    rw [ct_zero (f := kh p 0) 16 (fun _ _ => rfl)]; simp [Maps.size]⟩

theorem VM.ext {l : Nat → Bool} {p : Nat} {w w' : World} {B k : Nat} (h : VM l p w B k) (e : Ext w w') : VM l p w' B k := by
  obtain ⟨n, D, hn, ⟨es, cl, hb, r⟩, h2⟩ := h
  exact ⟨n, D, hn, ⟨es, cl, by rw [e.block B (lt_of_block hb)]; exact hb, r⟩, h2⟩

/-- The look-up, as a run. -/
theorem VM.look {l : Nat → Bool} {p : Nat} {w : World} {B k : Nat} (h : VM l p w B k) {q c : Nat} (hq : q < 4294967296) (hc : kc l p k q = c) :
    (Instr.lookup 59 (.map (some B)) (.int .u32 (q : Int)) false).run Try.prog w = .ok (.int .i64 (c : Int)) w := by
  obtain ⟨n, D, hn, ho, h2, _⟩ := h
  obtain ⟨v, hrun, hat, _⟩ := ho.lookup_int law43 under59 Try.underlying3 (zero3 _) (keyOf_int_mk Try.underlying43 (u32_wf hq))
  rw [(h2 q).1, hc] at hat
  have : (c : Int) = v := by
    injection hat with hat
    injection hat
  rw [this]
  exact hrun

/-- The store, as a run. -/
theorem VM.put {l : Nat → Bool} {p : Nat} {w0 w : World} {B k : Nat} (h : VM l p w B k) (hk : k < 16) {q c : Nat} (hq : ky p k = q) (hc : kc l p (k + 1) q = c) (he : Ext w0 w) (hB : w0.heap.size ≤ B) :
    ∃ w', (Instr.mapUpdate 59 (.map (some B)) (.int .u32 (q : Int)) (.int .i64 (c : Int))).run Try.prog w = .ok () w' ∧ VM l p w' B (k + 1) ∧ Ext w0 w' := by
  obtain ⟨n, D, hn, ho, h2, hs⟩ := h
  have hq16 : q < 16 := by have := ky_le p k; omega
  have hcl : c ≤ k + 1 := by rw [← hc]; exact kc_le _ _ _ _
  obtain ⟨w', hrun, h3, h4⟩ := ho.update law43 under59 (by unfold maxLen; omega) (keyOf_int_mk Try.underlying43 (u32_wf (x := q) (by omega))) (plainElem_int Try.underlying3 (i64_wf (x := c) (by omega)))
  have kk := law43.key (keyOf_int_mk Try.underlying43 (u32_wf (x := q) (by omega)))
  refine ⟨w', hrun, ⟨n + 1, _, by omega, h3, fun b => ?_, ?_⟩, Below.grown he h4 he.size (fun k hk => by injection hk with hk; omega)⟩
  · by_cases hb : b = q
    · subst hb
      rw [hc, kh_hit hq, atKey_put_same ho.isMap kk, has_put_same ho.isMap kk]
      exact ⟨rfl, rfl⟩
    · have hne : (Lit.int .u32 (b : Int)) ≠ .int .u32 (q : Int) := by
        intro e
        injection e with _ e
        exact hb (by omega)
      have hne2 : ¬ ky p k = b := by rw [hq]; exact fun e => hb e.symm
      rw [atKey_put_other hne, has_put_other hne, (h2 b).1, (h2 b).2, kc_miss hne2, kh_miss hne2]
      exact ⟨rfl, rfl⟩
  · rw [size_put (ho.tidy law43), (h2 q).2, hs]
    cases hh : kh p k q
    · rw [ct_put (f := kh p k) (g := kh p (k + 1)) (j := q) (b := true) hh (kh_hit hq) 16 hq16 (fun i _ hi => kh_miss (by rw [hq]; exact fun e => hi e.symm))]
      simp
    · rw [ct_congr (f := kh p (k + 1)) (g := kh p k) 16 (fun i _ => by
        by_cases e : i = q
        · rw [e, kh_hit hq, hh]
        · exact kh_miss (by rw [hq]; exact fun h => e h.symm))]
      simp

end Go.Proofs.Ytakojkekelhobaa
