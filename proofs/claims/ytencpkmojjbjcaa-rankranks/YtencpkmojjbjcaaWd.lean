/-
  quipuref.BitsCheck of one word and of two; quipuref.Word; rank.Word.
-/
import Derived.Test.YtencpkmojjbjcaaBt
namespace Go.Proofs.Ytencpkmojjbjcaa
open Go.RowKit

/-- quipuref.BitsCheck of words that lie in memory. -/
theorem bitsCheck_any (n : Nat) (hn : n ≤ 12) (b o m c : Nat) (g : List Nat) (hg : g.length = m) (hm : m ≤ 1000) (w : World) (hc : ∀ i, i < m → w.cell? ⟨b, o + i, none⟩ = some (.int .u32 (g.getD i 0))) (hb : ∀ i, i < m → g.getD i 0 < 4294967296) :
    Calls Try.prog 13 #[.int .i64 n, .slice (some ⟨b, o, none⟩) m c] w fun e w' => e = .returned (.int .i64 (if (∀ x ∈ g, x < 2 ^ n) then 0 else 4)) ∧ w' = w := by
  have pw : (2 : Int) ^ n % 4294967296 = ((2 ^ n : Nat) : Int) := pow_in n (by omega)
  have hM : 2 ^ n ≤ 2 ^ 12 := Nat.pow_le_pow_right (by omega) hn
  generalize 2 ^ n = M at *
  have HC : Hid (∀ i, i < m → w.cell? ⟨b, o + i, none⟩ = some (.int .u32 (g.getD i 0))) := hc
  have HB : Hid (∀ i, i < m → g.getD i 0 < 4294967296) := hb
  clear hc hb
  have fin : Hid ((∀ i, i < m → g.getD i 0 < M) → (if (∀ x ∈ g, x < M) then (0 : Int) else 4) = 0) := fun h => if_pos (by
    intro x hx
    obtain ⟨i, hi, rfl⟩ := List.mem_iff_getElem.1 hx
    have := h i (by omega)
    simpa [List.getD_eq_getElem?_getD, hi] using this)
  have bad : Hid (∀ i, i < m → M ≤ g.getD i 0 → (if (∀ x ∈ g, x < M) then (0 : Int) else 4) = 4) := fun i hi h => if_neg (fun h' => by
    have := h' _ (List.getElem_mem (l := g) (n := i) (by omega))
    simp [List.getD_eq_getElem?_getD, (show i < g.length by omega)] at h
    omega)
  generalize (if (∀ x ∈ g, x < M) then (0 : Int) else 4) = R at *
  go_enter Try.func13, Try.ntmps13
  go_wp2
  go_loopg [6, 15] m (fun gg _ s wr => ∃ k : Nat, k ≤ m ∧ m - k ≤ gg ∧ s = .int .i64 k ∧ Aside (∀ i, i < k → g.getD i 0 < M) ∧ wr = w)
  case atStart => exact ⟨0, Nat.zero_le _, by omega, rfl, fun i hi => absurd hi (Nat.not_lt_zero _), rfl⟩
  case round =>
    obtain ⟨k, hk, hgg, rfl, A, rfl⟩ := hrel
    by_cases hlt : k < m
    · have hltz : (k : Int) < (m : Int) := by omega
      have e1 := HC.out k hlt
      have b1 := HB.out k hlt
      have go : Aside (g.getD k 0 < M → ∀ i, i < k + 1 → g.getD i 0 < M) := fun h i hi => by
        rcases Nat.lt_succ_iff_lt_or_eq.1 hi with h' | rfl
        · exact A.out i h'
        · exact h
      have bd : Hid (M ≤ g.getD k 0 → R = 4) := bad.out k hlt
      generalize g.getD k 0 = y at *
      rcases Nat.lt_or_ge y M with h | h
      · have hz : (y : Int) < (M : Int) := by omega
        have go' := go.out h
        clear go bd
        have go2 : Aside (∀ i, i < k + 1 → g.getD i 0 < M) := go'
        clear go'
        go_wp2
        go_roundg (m - (k + 1))
        case measure => omega
        case rel => exact ⟨k + 1, by omega, by omega, by go_num, go2.out, rfl⟩
      · have hz : (M : Int) ≤ (y : Int) := by omega
        have e := bd.out h
        clear go bd
        go_wp2
        go_ret
        exact ⟨by rw [e]; rfl, rfl⟩
    · have e := fin.out (fun i hi => A.out i (by omega))
      clear fin bad
      go_wp2
      go_ret
      exact ⟨by rw [e]; rfl, rfl⟩

/-- quipuref.Word. -/
theorem refWord_any (n k i : Nat) (hn : n ≤ 12) (hi : i < ch n k) (w : World) : Calls Try.prog 16 #[.int .i64 n, .int .i64 k, .int .i64 i] w fun e w' => e = .returned (.int .u32 (wordOf n k i : Nat)) ∧ w' = w := by
  have SZ : Hid (∀ (x : Nat) W, x < 4294967296 → Calls Try.prog 14 #[.int .u32 (x : Nat)] W fun e w' => e = .returned (.int .i64 (pop x : Nat)) ∧ w' = W) := fun x W hx => size_any x hx W
  have pw : (2 : Int) ^ n % 4294967296 = ((2 ^ n : Nat) : Int) := pow_in n (by omega)
  have hM : 2 ^ n ≤ 2 ^ 12 := Nat.pow_le_pow_right (by omega) hn
  have HW := wordOf_ok n k i (by omega) hi
  have hi2 : i < cnt k (2 ^ n) := by rw [cnt_all n k (by omega)]; exact hi
  have few := cnt_le k (2 ^ n)
  obtain ⟨h1, h2, h3⟩ := HW
  generalize wordOf n k i = R at *
  generalize 2 ^ n = M at *
  have here : Hid (∀ x, pop x = k → cnt k x = i → x = R) := fun x hx he => cnt_inj hx h2 (by omega)
  have past : Hid (∀ x, cnt k x ≤ i → x < M) := fun x hx => by
    rcases Nat.lt_or_ge x M with l | l
    · exact l
    · have := cnt_mono (k := k) l; omega
  have nxt : Hid (∀ x, cnt k (x + 1) = cnt k x + (if pop x = k then 1 else 0)) := fun x => rfl
  have hi4 : i < 4096 := by omega
  clear hi hi2 h2 h3 h1
  go_enter Try.func16, Try.ntmps16
  go_wp2
  go_loopg [2, 7] M (fun gg s2 s7 wr => ∃ x : Nat, x ≤ M ∧ M - x ≤ gg ∧ ∃ r : Nat, r + cnt k x = i ∧ s2 = .int .i64 r ∧ s7 = .int .u32 x ∧ wr = w)
  case atStart => exact ⟨0, Nat.zero_le _, by omega, i, by rfl, rfl, rfl, rfl⟩
  case round =>
    obtain ⟨x, hk, hgg, r, hr, rfl, rfl, rfl⟩ := hrel
    have hltm : x < M := past.out x (by omega)
    have hltz : (x : Int) < (M : Int) := by omega
    have c1 := SZ.out x wr (by omega)
    have nx := nxt.out x
    have hh : Hid (pop x = k → cnt k x = i → x = R) := here.out x
    have rb : r ≤ 4096 := by omega
    generalize cnt k x = A at *
    have HN : Hid (cnt k (x + 1) = A + (if pop x = k then 1 else 0)) := nx
    clear nx past nxt here
    generalize pop x = p at *
    go_wp2_with fail
    refine c1.mono ?_
    rintro e w' ⟨rfl, rfl⟩
    clear c1
    by_cases hp : p = k
    · subst hp
      have hc : cnt p (x + 1) = A + 1 := by rw [HN.out, if_pos rfl]
      rcases Nat.eq_zero_or_pos r with h0 | h0
      · subst h0
        have e := hh.out rfl (by omega)
        subst e
        clear hh HN hc
        go_wp2
        go_ret
        exact ⟨rfl, rfl⟩
      · have hz : ((r : Int) == 0) = false := by rw [beq_eq_false_iff_ne]; omega
        have HC : Hid (cnt p (x + 1) = A + 1) := hc
        clear hh HN hc
        go_wp2
        go_roundg (M - (x + 1))
        case measure => omega
        case rel => exact ⟨x + 1, by omega, by omega, r - 1, by rw [HC.out]; omega, by go_num, by go_num, rfl⟩
    · have HC : Hid (cnt k (x + 1) = A) := by have := HN.out; rw [if_neg hp] at this; exact this
      clear hh HN
      have hpz : ((p : Int) == (k : Int)) = false := by rw [beq_eq_false_iff_ne]; omega
      go_wp2
      go_roundg (M - (x + 1))
      case measure => omega
      case rel => exact ⟨x + 1, by omega, by omega, r, by rw [HC.out]; omega, by go_num, by go_num, rfl⟩

theorem word_or {x b : Nat} (hb : b < 12) (hx : x % 2 ^ (b + 1) = 0) (hx2 : x < 4096) : bits BinOp.or IntKind.u32 (x : Int) (2 ^ b % 4294967296) = ((x + 2 ^ b : Nat) : Int) := by
  have h : 2 ^ b ≤ 2 ^ 12 := Nat.pow_le_pow_right (by omega) (by omega)
  have h2 : 2 ^ b < 2 ^ (b + 1) := Nat.pow_lt_pow_right (by omega) (by omega)
  rw [pow_in b (by omega), u32_or_nat x (2 ^ b) (by omega) (by omega), nat_join (b + 1) x (2 ^ b) hx h2]

theorem word_step {B K I x R : Nat} (h : I < ch (B + 1) K ∧ x % 2 ^ (B + 1) = 0 ∧ x + wordOf (B + 1) K I = R) :
    (ch B K ≤ I → 1 ≤ K ∧ (I - ch B K < ch B (K - 1) ∧ (x + 2 ^ B) % 2 ^ B = 0 ∧ x + 2 ^ B + wordOf B (K - 1) (I - ch B K) = R)) ∧ (I < ch B K → (I < ch B K ∧ x % 2 ^ B = 0 ∧ x + wordOf B K I = R)) := by
  obtain ⟨h1, h2, h3⟩ := h
  have hx : x % 2 ^ B = 0 := by
    have d : 2 ^ B ∣ x := Nat.dvd_trans (Nat.pow_dvd_pow 2 (by omega)) (Nat.dvd_of_mod_eq_zero h2)
    exact Nat.mod_eq_zero_of_dvd d
  unfold wordOf at h3
  constructor
  · intro c
    rw [if_pos c] at h3
    cases K with
    | zero => rw [ch_zero] at c h1; omega
    | succ K =>
      have h' : I < ch B K + ch B (K + 1) := h1
      rw [show K + 1 - 1 = K by omega] at *
      exact ⟨by omega, by omega, by rw [Nat.add_mod_right, hx], by omega⟩
  · intro c
    rw [if_neg (by omega)] at h3
    exact ⟨c, hx, h3⟩

/-- rank.Word of a rank that is one. -/
theorem word_good (n k i : Nat) (hn : n ≤ 12) (hk : k ≤ n) (hi : i < ch n k) (w : World) : Calls Try.prog 15 #[.int .i64 n, .int .i64 k, .int .i64 i] w fun e w' => e = .returned (.tuple #[.int .u32 (wordOf n k i : Nat), .int .i64 0]) ∧ w' = w := by
  have c0 := many_good n k hn hk w
  have CH : Hid (∀ (b k : Nat) W, b ≤ 12 → k ≤ 12 → Calls Try.prog 25 #[.int .i64 b, .int .i64 k] W fun e w' => e = .returned (.int .i64 (ch b k : Nat)) ∧ w' = W) := fun b k W hb hk => choices_any b k hb hk W
  have hM : 2 ^ n ≤ 2 ^ 12 := Nat.pow_le_pow_right (by omega) hn
  have hW : wordOf n k i < 4096 := by have := (wordOf_ok n k i (by omega) hi).1; omega
  have few := ch_few' hn (show k ≤ 13 by omega)
  obtain ⟨R, hR⟩ : ∃ R, wordOf n k i = R := ⟨_, rfl⟩
  have A0 : Hid (i < ch n k ∧ 0 % 2 ^ n = 0 ∧ 0 + wordOf n k i = R) := ⟨hi, Nat.zero_mod _, by omega⟩
  rw [hR] at hW ⊢
  obtain ⟨C, hC⟩ : ∃ C, ch n k = C := ⟨_, rfl⟩
  rw [hC] at c0 few hi
  have hiz : ¬ (C ≤ i) := by omega
  have hi9 : i ≤ 924 := by omega
  clear hM hR hC
  have STEP : Hid (∀ B K I x, (I < ch (B + 1) K ∧ x % 2 ^ (B + 1) = 0 ∧ x + wordOf (B + 1) K I = R) → (ch B K ≤ I → 1 ≤ K ∧ (I - ch B K < ch B (K - 1) ∧ (x + 2 ^ B) % 2 ^ B = 0 ∧ x + 2 ^ B + wordOf B (K - 1) (I - ch B K) = R)) ∧ (I < ch B K → (I < ch B K ∧ x % 2 ^ B = 0 ∧ x + wordOf B K I = R))) := fun B K I x h => word_step h
  go_enter Try.func15, Try.ntmps15
  go_wp2_with fail
  refine c0.mono ?_
  rintro e w' ⟨rfl, rfl⟩
  clear c0
  go_wp2
  go_loopg [1, 2, 10, 11, 12] n (fun gg s1 s2 s10 s11 _ wr => ∃ b x K I : Nat, b ≤ n ∧ b ≤ gg ∧ K ≤ 12 ∧ I ≤ 924 ∧ x < 4096 ∧ s1 = .int .i64 K ∧ s2 = .int .i64 I ∧ s10 = .int .u32 x ∧ s11 = .int .i64 ((b : Int) - 1) ∧ wr = w' ∧ Aside (I < ch b K ∧ x % 2 ^ b = 0 ∧ x + wordOf b K I = R))
  case atStart => exact ⟨n, 0, k, i, Nat.le_refl _, Nat.le_refl _, by omega, by omega, by omega, rfl, rfl, rfl, rfl, rfl, A0.out⟩
  case round =>
    obtain ⟨b, x, K, I, hb, hgg, hK, hI, hx, rfl, rfl, rfl, h11, rfl, A⟩ := hrel
    cases b with
    | zero =>
      have e : x = R := A.out.2.2
      subst e
      have h11' : u11 = .int .i64 (-1) := h11
      subst h11'
      clear h11 STEP A A0 CH
      go_wp2
      go_ret2
      exact ⟨rfl, rfl⟩
    | succ B =>
      have h11' : u11 = .int .i64 (B : Int) := by rw [h11]; congr 1; omega
      subst h11'
      have c1 := CH.out B K wr (by omega) hK
      have few := ch_few' (n := B) (c := K) (by omega) (by omega)
      obtain ⟨s1, s2⟩ := STEP.out B K I x A.out
      have hor := word_or (x := x) (b := B) (by omega) A.out.2.1 hx
      have S1 : Hid _ := s1
      have S2 : Hid _ := s2
      clear s1 s2 h11 A STEP A0
      obtain ⟨D, hD⟩ : ∃ D, ch B K = D := ⟨_, rfl⟩
      rw [hD] at S1 S2 c1 few
      obtain ⟨M, hM⟩ : ∃ M, 2 ^ B = M := ⟨_, rfl⟩
      rw [hM] at hor S1
      go_wp2_with fail
      refine c1.mono ?_
      rintro e w' ⟨rfl, rfl⟩
      have HDD : Hid (ch B K = D) := hD
      have HMM : Hid (2 ^ B = M) := hM
      clear c1 hD hM
      rcases Nat.lt_or_ge I D with h | h
      · have hz : ¬ ((I : Int) ≥ (D : Int)) := by omega
        have S := S2.out h
        have SA : Hid _ := S
        clear S S1 S2 hor
        go_wp2
        go_roundg B
        case measure => omega
        case rel => exact ⟨B, x, K, I, by omega, by omega, by omega, by omega, by omega, rfl, rfl, rfl, by go_num, rfl, by rw [HDD.out]; exact SA.out⟩
      · have hz : ((I : Int) ≥ (D : Int)) := by omega
        obtain ⟨k1, S⟩ := S1.out h
        have hx2 : x + M < 4096 := by omega
        have SA : Hid _ := S
        clear S S1 S2
        go_wp2
        go_roundg B
        case measure => omega
        case rel => exact ⟨B, x + M, K - 1, I - D, by omega, by omega, by omega, by omega, by omega, by go_num, by go_num, by go_num, by go_num, rfl, by rw [HMM.out]; exact SA.out⟩

/-- What rank.Word tells. -/
def wer (n k i : Int) : Int := if mer n k = 0 then (if 0 ≤ i ∧ i < (ch n.toNat k.toNat : Nat) then 0 else 5) else mer n k

theorem mer_zero {n k : Int} (h : mer n k = 0) : ∃ N K : Nat, n = N ∧ k = K ∧ N ≤ 12 ∧ K ≤ N := by
  unfold mer at h
  by_cases c : 0 ≤ n ∧ n ≤ 12
  · rw [if_pos c] at h
    by_cases d : 0 ≤ k ∧ k ≤ n
    · exact ⟨n.toNat, k.toNat, by omega, by omega, by omega, by omega⟩
    · rw [if_neg d] at h; omega
  · rw [if_neg c] at h; omega

theorem word_bad (n k i : Int) (h : wer n k i ≠ 0) (w : World) : Calls Try.prog 15 #[.int .i64 n, .int .i64 k, .int .i64 i] w fun e w' => e = .returned (.tuple #[.int .u32 0, .int .i64 (wer n k i)]) ∧ w' = w := by
  unfold wer at *
  by_cases hm : mer n k = 0
  · rw [if_pos hm] at h ⊢
    obtain ⟨N, K, rfl, rfl, hN, hK⟩ := mer_zero hm
    have c0 := many_good N K hN hK w
    simp only [Int.toNat_natCast] at h ⊢
    clear hm
    by_cases hi : 0 ≤ i ∧ i < (ch N K : Nat)
    · rw [if_pos hi] at h; exact absurd rfl h
    · rw [if_neg hi]
      clear h
      generalize ch N K = C at *
      rcases Int.lt_or_le i 0 with h0 | h0
      · go_enter Try.func15, Try.ntmps15
        go_wp2_with fail
        refine c0.mono ?_
        rintro e w' ⟨rfl, rfl⟩
        go_wp2
        go_ret2
        exact ⟨rfl, rfl⟩
      · have h1 : (C : Int) ≤ i := by omega
        go_enter Try.func15, Try.ntmps15
        go_wp2_with fail
        refine c0.mono ?_
        rintro e w' ⟨rfl, rfl⟩
        go_wp2
        go_ret2
        exact ⟨rfl, rfl⟩
  · rw [if_neg hm]
    have c0 := many_bad n k hm w
    have hz : (mer n k != 0) = true := by rw [bne_iff_ne]; exact hm
    clear h hm
    generalize mer n k = E at *
    go_enter Try.func15, Try.ntmps15
    go_wp2_with fail
    refine c0.mono ?_
    rintro e w' ⟨rfl, rfl⟩
    go_wp2
    go_ret2
    exact ⟨rfl, rfl⟩

end Go.Proofs.Ytencpkmojjbjcaa
