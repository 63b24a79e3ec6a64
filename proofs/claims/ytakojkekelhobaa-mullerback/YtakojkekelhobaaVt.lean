/-
  muller.voteOn.
-/
import Derived.Test.YtakojkekelhobaaVm
namespace Go.Proofs.Ytakojkekelhobaa
open Go.RowKit Go.Maps
set_option linter.unusedVariables false

set_option maxHeartbeats 2000000 in
theorem voteOn_any (m p : Nat) (hm : m ≤ 4) (hp : p < 2 ^ m) (x : Wd) (hl : x.l.length = 2 ^ m) (w : World) (hx : Bits w x) :
    Calls Try.prog 33 #[.int .u32 p, x.v] w fun e w' => e = .returned (.bool (vt (2 ^ m) p (fun i => x.l.getD i false))) ∧ Ext w w' := by
  have lim := pow_lim hm
  obtain ⟨a, c, l⟩ := x
  obtain ⟨h1, h2, _, b, o, h4, h5⟩ := hx
  simp only at h1 h2 h4 h5 hl
  simp only [Wd.v]
  rw [hl] at h1 h4 h5 ⊢
  obtain ⟨F, hF⟩ : ∃ F : Nat → Bool, ∀ k, F k = l.getD k false := ⟨_, fun _ => rfl⟩
  have EF : (fun i => l.getD i false) = F := funext (fun i => (hF i).symm)
  rw [EF]
  have HC : Hid (∀ i, i < 2 ^ m → w.cell? ⟨b, o + i, none⟩ = some (.bool (F i))) := fun i hi => by rw [hF]; exact h5 i hi
  have KH : Hid (∀ q, q < 16 → kh p (2 ^ m) q = (decide (q < 2 ^ m) && q &&& p == 0)) := fun q hq => kh_all ⟨m, by omega⟩ ⟨p, by omega⟩ ⟨q, hq⟩ hp
  have KM : Hid (ct (kh p (2 ^ m)) 16 = all p (2 ^ m)) := kh_many ⟨m, by omega⟩ ⟨p, by omega⟩ hp
  obtain ⟨G, hG⟩ : ∃ G : Nat → Bool, ∀ q, G q = (q &&& p == 0 && kc F p (2 ^ m) q % 2 == 1) := ⟨_, fun _ => rfl⟩
  have HY : yes (2 ^ m) p F (2 ^ m) = ct G (2 ^ m) := ct_congr _ (fun q _ => by
    rw [hG]
    unfold pt
    rw [xs_ct]; rfl)
  have HV : vt (2 ^ m) p F = decide (all p (2 ^ m) < ct G (2 ^ m) + ct G (2 ^ m)) := by
    unfold vt
    rw [HY]
  rw [HV]
  have hp16 : p < 16 := by omega
  have ML : all p (2 ^ m) ≤ 2 ^ m := ct_le _ _
  have HG : Hid (∀ q, kh p (2 ^ m) q = true → G q = (kc F p (2 ^ m) q % 2 == 1) ∧ q < 2 ^ m ∧ kc F p (2 ^ m) q ≤ 16) := fun q h => by
    have hq := kh_lt h
    have h' := KH.out q (by omega)
    rw [h, decide_eq_true hq, Bool.true_and] at h'
    rw [hG, ← h', Bool.true_and]
    exact ⟨rfl, hq, by have := kc_le F p (2 ^ m) q; omega⟩
  have HG0 : Hid (∀ q, q < 2 ^ m → (G q && !kh p (2 ^ m) q) = false) := fun q h => by
    rw [KH.out q (by omega), decide_eq_true h, Bool.true_and, hG]
    cases (q &&& p == 0) <;> simp
  have K1 : Hid (∀ k c, k < 2 ^ m → (if F k then 1 else 0) = c → kc F p (k + 1) (k - (k &&& p)) = kc F p k (k - (k &&& p)) + c) := fun k c _ hc => by rw [← hc]; exact kc_hit rfl
  have K2 : Hid (∀ k q, kc F p k q ≤ k) := fun k q => kc_le F p k q
  clear h5 EF hF KH hG HY HV hl hp
  generalize all p (2 ^ m) = A at *
  generalize 2 ^ m = M at *
  unfold maxLen at h2
  have L0 : Hid (VM F p (w.alloc (.map #[] 0)) w.heap.size 0) := VM.made F p w
  have E0 : Hid (Ext w (w.alloc (.map #[] 0))) := (Ext.refl w).alloc _
  have O1 : Hid (∀ (b : Bool) W, Calls Try.prog 39 #[.bool b] W fun e w' => e = .returned (.int .i64 (if b then 1 else 0)) ∧ w' = W) := oneIf_any
  have hmm := @run_makeMap Try.prog
  go_enter Try.func33, Try.ntmps33
  go_wp2
  clear hmm
  go_loopg [14] M (fun gg s14 wr => ∃ k : Nat, k ≤ M ∧ M - k ≤ gg ∧ s14 = .int .i64 k ∧ Aside (VM F p wr w.heap.size k) ∧ Aside (Ext w wr))
  case atStart => exact ⟨0, Nat.zero_le _, by omega, rfl, L0.out, E0.out⟩
  case round =>
    obtain ⟨k, hk, hg, rfl, L, X⟩ := hrel
    clear L0 E0
    by_cases hlt : k < M
    · have hltz : (k : Int) < (M : Int) := by omega
      obtain rfl := h4 (by omega)
      have e1 := X.out.cell (HC.out k hlt)
      have ea := not_at (a := k) (b := p) (by omega) hp16
      have o1 := O1.out (F k)
      have k1 := K1.out k _ hlt rfl
      have k2 := K2.out k (k - (k &&& p))
      have HQ : Hid (ky p k = k - (k &&& p)) := rfl
      have hql : k - (k &&& p) < 16 := by omega
      generalize k - (k &&& p) = q at *
      have L' : Hid (VM F p wr w.heap.size k) := L.out
      have X' : Hid (Ext w wr) := X.out
      clear HC KM HG HG0 K1 K2 O1 L X h4
      have hf : (if F k = true then (1 : Int) else 0) = (((if F k = true then 1 else 0 : Nat)) : Int) := by cases F k <;> rfl
      rw [hf] at o1
      have hfl : (if F k = true then 1 else 0 : Nat) ≤ 1 := by split <;> omega
      generalize (if F k = true then 1 else 0 : Nat) = f at *
      generalize F k = fk at *
      have K1' : Hid (kc F p (k + 1) q = kc F p k q + f) := k1
      obtain ⟨v, hv⟩ : ∃ v, kc F p k q = v := ⟨_, rfl⟩
      have KV : Hid (kc F p k q = v) := hv
      have O1' : Hid (∀ W, Calls Try.prog 39 #[.bool fk] W fun e w' => e = .returned (.int .i64 (f : Nat)) ∧ w' = W) := o1
      rw [hv] at k2
      clear k1 hv o1 hf
      have hKV : Hid (kc F p (k + 1) q = v + f) := by show _ = _; rw [K1'.out, KV.out]
      have LD : VM F p wr.drew w.heap.size k := L'.out.ext ((Ext.refl _).drewN 1)
      have XD : Ext w wr.drew := X'.out.drewN 1
      have lk := LD.look (q := q) (by omega) KV.out
      obtain ⟨w3, pt3, L3, X3⟩ := LD.put (by omega) HQ.out hKV.out XD (Nat.le_refl _)
      rw [Int.natCast_add] at pt3
      have L3' : Hid (VM F p w3 w.heap.size (k + 1)) := L3
      have X3' : Hid (Ext w w3) := X3
      clear L3 X3 LD XD
      have uk : IntKind.u32.wrap (k : Int) = (k : Int) := by simp [IntKind.wrap, IntKind.bits, IntKind.signed]; omega
      have uf : IntKind.i64.wrap ((v : Int) + (f : Int)) = (v : Int) + (f : Int) := IntWalk.i64_in _ (by omega)
      go_wp2
      go_region_with (go_at_call 39; refine (O1'.out _).mono ?_; rintro e w2 ⟨rfl, rfl⟩)
      all_goals
        go_wp2
        go_roundg (M - (k + 1))
        case measure => omega
        case rel => exact ⟨k + 1, by omega, by omega, by go_num, L3'.out, X3'.out⟩
    · obtain rfl : k = M := by omega
      have hltz : ¬ (k : Int) < (k : Int) := by omega
      obtain ⟨n, D, hn, ho, h2, hs⟩ := L.out
      have HD : Hid (∀ o : Nat, D.atKey (.int .u32 (o : Int)) (.lit (.int .i64 0)) = .lit (.int .i64 ((kc F p k o : Nat) : Int)) ∧ Maps.has D (.int .u32 (o : Int)) = kh p k o) := h2
      have HS : Hid (Maps.size D = A) := by show _ = _; rw [hs]; exact KM.out
      have X' : Hid (Ext w wr) := X.out
      have hwr := X.out.size
      clear HC KM K1 K2 O1 L X h2 hs h4
      go_wp2_with (first | (at_range; refine wpList_range_own _ rfl _ 59 rfl 43 3 law43 under59 _ w.heap.size n D rfl ho ?_; intro w0 hrg0 hg0 hs0) | go_in)
      have X0 : Hid (Ext w w0) := X'.out.trans (Below.grown (Ext.refl wr) hg0 (Nat.le_refl _) (fun k hk => by cases hk))
      have R0 : Hid (w0.ranges Try.prog 43 (plainElem Try.prog 3) w.heap.size wr.heap.size n D (Maps.has D) (Maps.size D)) := hrg0
      clear hrg0 hg0 ho X'
      generalize wr.heap.size = R at *
      go_loopg [8] (Maps.size D) (fun gg s8 wq => ∃ (left : Lit → Bool) (cnt : Nat), cnt ≤ gg ∧ s8 = .int .i64 (ct (fun q => G q && !left (.int .u32 (q : Int))) k : Nat) ∧ Aside (wq.ranges Try.prog 43 (plainElem Try.prog 3) w.heap.size R n D left cnt) ∧ Aside (∀ q : Nat, left (.int .u32 (q : Int)) = true → kh p k q = true) ∧ Aside (Ext w wq))
      case atStart =>
        refine ⟨_, _, Nat.le_refl _, ?_, R0.out, fun q h => by rw [← (HD.out q).2]; exact h, X0.out⟩
        rw [ct_zero k (fun q hq => by rw [(HD.out q).2]; exact HG0.out q hq)]; rfl
      case round =>
        obtain ⟨left, cnt, hcnt, rfl, hrg, hlf, hX⟩ := hrel
        have hl0 := hrg.out
        have HLF : Hid (∀ q : Nat, left (.int .u32 (q : Int)) = true → kh p k q = true) := hlf.out
        have HX : Hid (Ext w wr) := hX.out
        obtain ⟨t, ht⟩ : ∃ t, ct (fun q => G q && !left (.int .u32 (q : Int))) k = t := ⟨_, rfl⟩
        have htk : t ≤ k := by rw [← ht]; exact ct_le _ k
        have HT : Hid (ct (fun q => G q && !left (.int .u32 (q : Int))) k = t) := ht
        rw [ht]
        clear hrg hlf hX X0 R0 ht HG0
        go_wp2_with (first | (at_next; refine wpList_next_ranges_ii _ rfl _ rfl 43 3 .u32 .i64 law43 Try.underlying43 Try.underlying3 w.heap.size R n _ _ _ rfl hl0 ?_ ?_) | go_in)
        · intro hc0 hl
          have htA : ct G k = t := by
            rw [← HT.out]
            exact ct_congr k (fun q _ => by rw [hl]; cases G q <;> rfl)
          have FA : Hid (ct G k = t) := htA
          have hs := HS.out
          clear htA HT HD HG HLF hl hcnt
          by_cases hv : A < t + t
          · have HVV : Hid (decide (A < ct G k + ct G k) = true) := by show _ = _; rw [FA.out]; exact decide_eq_true hv
            have hvi : (A : Int) < 2 * (t : Int) := by omega
            clear hv
            go_wp2_with (first | (at_len; refine wpList_len_own _ rfl _ 59 rfl 43 3 under59 _ w.heap.size n D rfl hl0.owns ?_; rw [hs]) | go_in)
            go_ret
            exact ⟨ret_bool HVV.out.symm, HX.out⟩
          · have HVV : Hid (decide (A < ct G k + ct G k) = false) := by show _ = _; rw [FA.out]; exact decide_eq_false hv
            have hvi : ¬ (A : Int) < 2 * (t : Int) := by omega
            clear hv
            go_wp2_with (first | (at_len; refine wpList_len_own _ rfl _ 59 rfl 43 3 under59 _ w.heap.size n D rfl hl0.owns ?_; rw [hs]) | go_in)
            go_ret
            exact ⟨ret_bool HVV.out.symm, HX.out⟩
        · intro x c1 w1 cnt1 hwx hwc hlx hat hrg1 hlt1 hg1 hs1 hen
          obtain ⟨q, rfl⟩ := u32_nat hwx
          have hkq := HLF.out q hlx
          obtain ⟨hGq, hqk, hc16⟩ := HG.out q hkq
          have hcc : (c1 : Int) = ((kc F p k q : Nat) : Int) := by
            have h1 := hat (.lit (.int .i64 0))
            rw [(HD.out q).1] at h1
            injection h1 with h1
            injection h1 with _ h1
            exact h1.symm
          have HR1 : Hid (w1.ranges Try.prog 43 (plainElem Try.prog 3) w.heap.size R n D (fun z => left z && !z.sameKey (.int .u32 (q : Int))) cnt1) := hrg1
          have HX1 : Hid (Ext w w1) := Below.grown HX.out hg1 HX.out.size (fun k hk => by injection hk with hk; omega)
          have HL1 : Hid (∀ o : Nat, (left (.int .u32 (o : Int)) && !(Lit.int .u32 (o : Int)).sameKey (.int .u32 (q : Int))) = true → kh p k o = true) := fun o h => HLF.out o (by
            rw [Bool.and_eq_true] at h; exact h.1)
          have HN : Hid (ct (fun o => G o && !(left (.int .u32 (o : Int)) && !(Lit.int .u32 (o : Int)).sameKey (.int .u32 (q : Int)))) k = t + (if (kc F p k q % 2 == 1) = true then 1 else 0)) := by
            show _ = _
            rw [← HT.out]
            refine ct_put (j := q) (b := kc F p k q % 2 == 1) ?_ ?_ k hqk (fun o _ ho => ?_)
            · show (G q && !left (.int .u32 (q : Int))) = false
              rw [hlx]; cases G q <;> rfl
            · show (G q && !(left (.int .u32 (q : Int)) && !(Lit.int .u32 (q : Int)).sameKey (.int .u32 (q : Int)))) = _
              rw [WideAt.sameKey_self (law43.key (keyOf_int_mk Try.underlying43 hwx)), hGq]
              cases left (.int .u32 (q : Int)) <;> cases (kc F p k q % 2 == 1) <;> rfl
            · show (G o && !(left (.int .u32 (o : Int)) && !(Lit.int .u32 (o : Int)).sameKey (.int .u32 (q : Int)))) = _
              rw [sameKey_ne (by intro e; injection e with _ e; exact ho (by omega))]
              cases G o <;> cases left (.int .u32 (o : Int)) <;> rfl
          clear hat hrg1 hwx hwc hlx HT HLF HX hg1 HD HG HS hkq hGq hl0
          generalize kc F p k q = cc at *
          subst hcc
          have yz : (cc : Int).tmod 2 = ((cc % 2 : Nat) : Int) := by rw [show (2 : Int) = ((2 : Nat) : Int) from rfl, ← Int.ofNat_tmod]
          rcases Nat.mod_two_eq_zero_or_one cc with h | h
          · rw [h] at yz
            have HN' : Hid (ct (fun o => G o && !(left (.int .u32 (o : Int)) && !(Lit.int .u32 (o : Int)).sameKey (.int .u32 (q : Int)))) k = t) := by
              have := HN.out
              rw [h] at this
              exact this
            clear HN h
            go_wp2
            go_roundg cnt1
            case measure => omega
            case rel => exact ⟨_, cnt1, Nat.le_refl _, by rw [HN'.out], HR1.out, HL1.out, HX1.out⟩
          · rw [h] at yz
            have HN' : Hid (ct (fun o => G o && !(left (.int .u32 (o : Int)) && !(Lit.int .u32 (o : Int)).sameKey (.int .u32 (q : Int)))) k = t + 1) := by
              have := HN.out
              rw [h] at this
              exact this
            clear HN h
            go_wp2
            go_roundg cnt1
            case measure => omega
            case rel => exact ⟨_, cnt1, Nat.le_refl _, by rw [HN'.out]; go_num, HR1.out, HL1.out, HX1.out⟩

end Go.Proofs.Ytakojkekelhobaa
