/-
  slices.reverseRangeOrdered of words; nextPowerOfTwo, xorshift.Next.
-/
import Derived.Test.YtdfjjjcaibadoabDoorSc
import Derived.Test.YtdfjjjcaibadoabDoorLq
namespace Go.Proofs.YtdfjjjcaibadoabDoor
open Go.RowKit Go.Sort

set_option maxHeartbeats 2000000 in
theorem reverse_any (B c n a b : Nat) (d : Array Nat) (r : List Value) (w : World) (hr : UA w B d r) (hn : d.size = n) (hn2 : n ≤ 1000) (hab : a < b) (hb : b ≤ n) :
    Calls Tryd.prog 38 #[.slice (some ⟨B, 0, none⟩) n c, .int .i64 a, .int .i64 b] w
      fun e w' => e = .returned (.tuple #[]) ∧ Hid (∃ s, PermIn a b d s ∧ UA w' B s r) ∧ Hid (KB B w w') := by
  have st : Hid (∃ s, PermIn a b d s ∧ UA w B s r) := ⟨d, permIn_refl d a b, hr⟩
  have SZ : Hid (d.size = n) := hn
  obtain ⟨j0, hj0⟩ : ∃ j0, b - 1 = j0 := ⟨_, rfl⟩
  have hj0z : (b : Int) - 1 = (j0 : Int) := by omega
  have hj0b : j0 < b := by omega
  clear hr hn hj0
  go_enter Tryd.func38, Tryd.ntmps38
  go_wp2
  go_loopg [6, 7] n (fun gg s6 s7 wr => ∃ i j : Nat, a ≤ i ∧ i ≤ n ∧ j < b ∧ j - i ≤ gg ∧ s6 = .int .i64 i ∧ s7 = .int .i64 j ∧ Aside (KB B w wr) ∧ Aside (∃ s, PermIn a b d s ∧ UA wr B s r))
  case atStart => exact ⟨a, j0, by omega, by omega, by omega, by omega, by go_num, by go_num, KB.refl _ _, st.out⟩
  case round =>
    clear st hj0z
    obtain ⟨i, j, hi1, hi2, hj, hg, rfl, rfl, BW, A⟩ := hrel
    by_cases hij : i < j
    · have hijz : (i : Int) < (j : Int) := by omega
      obtain ⟨s, P, U⟩ := A.out
      have sz : s.size = n := P.1.trans SZ.out
      obtain ⟨k, rfl⟩ : ∃ k, j = k + 1 := ⟨j - 1, by omega⟩
      obtain ⟨x1, x2, x3, e1, e2, f1, f2, e4, f4, USW, SSW, KSW⟩ := ua_ready U sz i (k + 1) (by omega) (by omega)
      have P2 : Hid (PermIn a b d (swp s i (k + 1))) := permIn_trans _ _ _ _ _ P (swp_permIn s a b i (k + 1) (by omega) (by omega) (by omega) (by omega) (by omega))
      have b1 : (i : Int) < (n : Int) := by omega
      have b2 : (k : Int) + 1 < (n : Int) := by omega
      clear P U A sz
      go_wp2
      go_region
      have B4 : Hid (KB B w (((wr.setCell ⟨B, i, none⟩ (.int .u32 (x2 : Nat))).setCell ⟨B, k + 1, none⟩ (.int .u32 (x1 : Nat))).drew)) := BW.out.trans KSW.out
      clear BW KSW e1 e2 f1 f2 e4 f4
      generalize ((wr.setCell ⟨B, i, none⟩ (.int .u32 (x2 : Nat))).setCell ⟨B, k + 1, none⟩ (.int .u32 (x1 : Nat))).drew = W3 at *
      go_wp2
      go_roundg (k - (i + 1))
      case measure => omega
      case rel => exact ⟨i + 1, k, by omega, by omega, by omega, by omega, by go_num, by go_num, B4.out, _, P2.out, USW.out⟩
    · have hijz : ¬ (i : Int) < (j : Int) := by omega
      have F : Hid (∃ s, PermIn a b d s ∧ UA wr B s r) := A.out
      clear A
      go_wp2
      go_end0
      exact ⟨rfl, F, BW.out⟩

theorem wrap_two : ∀ m : Fin 11, IntKind.u64.wrap ((2 : Int) ^ m.val) = ((2 ^ m.val : Nat) : Int) := by decide +kernel

theorem pow_any (l : Nat) (hl : l ≤ 1000) (w : World) : Calls Tryd.prog 45 #[.int .i64 (l : Nat)] w fun e w' => e = .returned (.int .u64 ((2 ^ nd l : Nat) : Int)) ∧ w' = w := by
  have c1 := len_any l (by omega) w
  have h10 : nd l ≤ 10 := nd_below (by omega)
  have HP : Hid (IntKind.u64.wrap ((2 : Int) ^ nd l) = ((2 ^ nd l : Nat) : Int)) := wrap_two ⟨nd l, by omega⟩
  generalize nd l = m at *
  go_enter Tryd.func45, Tryd.ntmps45
  go_wp2_with fail
  refine c1.mono ?_
  rintro e w' ⟨rfl, rfl⟩
  clear c1
  go_wp2
  rw [HP.out]
  go_ret
  exact ⟨rfl, rfl⟩

/-- Some number of 64 bits in a block of its own. -/
def Box64 (w : World) (C : Nat) : Prop := ∃ v : Int, Row w C 61 [.int .u64 v]

theorem Box64.ext {w w' : World} {C : Nat} (h : Box64 w C) (e : Ext w w') : Box64 w' C := by
  obtain ⟨v, h⟩ := h
  exact ⟨v, h.ext e⟩
theorem Box64.kb {w w' : World} {B C : Nat} (h : Box64 w C) (e : KB B w w') (hne : C ≠ B) : Box64 w' C := by
  obtain ⟨v, h⟩ := h
  exact ⟨v, h.kb e hne⟩

/-- What is told of the first bits is below. -/
theorem mask_any (x : Int) (m : Nat) (hm : m < 18446744073709551616) : ∃ t : Nat, bits .and .u64 x (m : Int) = (t : Int) ∧ t ≤ m := by
  refine ⟨(BitVec.ofInt 64 x).toNat &&& m, ?_, Nat.and_le_right⟩
  have hx : (BitVec.ofInt 64 x).toNat &&& m ≤ m := Nat.and_le_right
  show IntKind.u64.wrap ((BitVec.ofInt 64 x &&& BitVec.ofInt 64 (m : Int)).toNat : Int) = _
  have e : (BitVec.ofInt 64 (m : Int)).toNat = m := by
    rw [BitVec.toNat_ofInt]
    omega
  rw [BitVec.toNat_and, e, IntKind.wrap_u64]
  omega

set_option maxHeartbeats 1000000 in
theorem next_any (C : Nat) (w : World) (h : Box64 w C) : Calls Tryd.prog 46 #[.pointer (some ⟨C, 0, none⟩)] w
    fun e w' => ∃ u : Int, e = .returned (.int .u64 u) ∧ Hid (Box64 w' C) ∧ Hid (KB C w w') := by
  obtain ⟨v, h⟩ := h
  have H : Hid (Row w C 61 [.int .u64 v]) := h
  have e1 := h.cell 0 (by simp)
  have f1 := h.fr 0
  simp only [List.getElem_cons_zero] at e1
  clear h
  go_enter Tryd.func46, Tryd.ntmps46
  go_wp2
  go_region
  generalize hx : bits BinOp.xor IntKind.u64 v (IntKind.u64.wrap (v * 8192)) = x
  have H2 : Hid (Row ((w.setCell ⟨C, 0, none⟩ (.int .u64 x)).drew) C 61 [.int .u64 x]) := (Row.set H.out 0 _).ext (ext_drew _)
  have K2 : Hid (KB C w ((w.setCell ⟨C, 0, none⟩ (.int .u64 x)).drew)) := ((KB.refl C w).setCell _).trans (KB.of_ext (ext_drew _))
  clear H e1 f1 hx
  generalize (w.setCell ⟨C, 0, none⟩ (.int .u64 x)).drew = W2 at *
  have e1 := H2.out.cell 0 (by simp)
  have f1 := H2.out.fr 0
  simp only [List.getElem_cons_zero] at e1
  go_wp2
  go_region
  generalize hx : bits BinOp.xor IntKind.u64 x _ = y
  have H3 : Hid (Row ((W2.setCell ⟨C, 0, none⟩ (.int .u64 y)).drew) C 61 [.int .u64 y]) := (Row.set H2.out 0 _).ext (ext_drew _)
  have K3 : Hid (KB C w ((W2.setCell ⟨C, 0, none⟩ (.int .u64 y)).drew)) := (K2.out.setCell _).trans (KB.of_ext (ext_drew _))
  clear H2 K2 e1 f1 hx
  generalize (W2.setCell ⟨C, 0, none⟩ (.int .u64 y)).drew = W3 at *
  have e1 := H3.out.cell 0 (by simp)
  have f1 := H3.out.fr 0
  simp only [List.getElem_cons_zero] at e1
  go_wp2
  go_region
  generalize hx : bits BinOp.xor IntKind.u64 y _ = z
  have H4 : Hid (Row ((W3.setCell ⟨C, 0, none⟩ (.int .u64 z)).drew) C 61 [.int .u64 z]) := (Row.set H3.out 0 _).ext (ext_drew _)
  have K4 : Hid (KB C w ((W3.setCell ⟨C, 0, none⟩ (.int .u64 z)).drew)) := (K3.out.setCell _).trans (KB.of_ext (ext_drew _))
  clear H3 K3 e1 f1 hx
  generalize (W3.setCell ⟨C, 0, none⟩ (.int .u64 z)).drew = W4 at *
  have e1 := H4.out.cell 0 (by simp)
  simp only [List.getElem_cons_zero] at e1
  go_wp2
  go_ret
  exact ⟨z, rfl, ⟨z, H4.out⟩, K4.out⟩

theorem KB.two {B C : Nat} {w w1 w2 : World} (h : KB B w w1) (k : KB C w1 w2) (hC : w.heap.size ≤ C) : KB B w w2 :=
  ⟨k.os.trans h.os, k.tape.trans h.tape, k.output.trans h.output, Nat.le_trans h.size k.size, fun i hi hne => (k.block i (Nat.lt_of_lt_of_le hi h.size) (by omega)).trans (h.block i hi hne)⟩

set_option maxRecDepth 100000 in
set_option maxHeartbeats 4000000 in
theorem break_any (B c n a b : Nat) (d : Array Nat) (r : List Value) (w : World) (hr : UA w B d r) (hn : d.size = n) (hn2 : n ≤ 1000) (hab : a + 12 < b) (hb : b ≤ n) :
    Calls Tryd.prog 36 #[.slice (some ⟨B, 0, none⟩) n c, .int .i64 a, .int .i64 b] w
      fun e w' => e = .returned (.tuple #[]) ∧ Hid (∃ s, PermIn a b d s ∧ UA w' B s r) ∧ Hid (KB B w w') := by
  have SZ : Hid (d.size = n) := hn
  obtain ⟨l, hl⟩ : ∃ l, b - a = l := ⟨_, rfl⟩
  obtain ⟨q, hq⟩ : ∃ q, l / 4 = q := ⟨_, rfl⟩
  obtain ⟨m, hm⟩ : ∃ m, a + q * 2 = m := ⟨_, rfl⟩
  obtain ⟨m0, hm0⟩ : ∃ m0, m - 1 = m0 := ⟨_, rfl⟩
  have lz : (b : Int) - (a : Int) = (l : Int) := by omega
  have qz : (l : Int).tdiv 4 = (q : Int) := by
    rw [show (4 : Int) = ((4 : Nat) : Int) from rfl, ← Int.ofNat_tdiv, hq]
  have mz : (a : Int) + (q : Int) * 2 = (m : Int) := by omega
  have m0z : (m : Int) - 1 = (m0 : Int) := by omega
  have l8 : (l : Int) ≥ 8 := by omega
  have hq1 : q ≤ 1000 := by omega
  have hl1 : l ≤ 1000 := by omega
  have hm1 : m + 1 < b := by omega
  have hm2 : a ≤ m0 := by omega
  have hm3 : m0 ≤ m := by omega
  have hal : Hid (a + l = b) := by show _ = _; omega
  have PW := pow_any l hl1
  have h2l : 2 ^ nd l ≤ 2 * l := by
    have h1 := nd_le (n := l) (by omega)
    have h0 := nd_pos (n := l) (by omega)
    have e : (2 : Nat) ^ nd l = 2 * 2 ^ (nd l - 1) := by
      rw [← Nat.pow_succ', show (nd l - 1).succ = nd l by omega]
    omega
  have h2p : 0 < 2 ^ nd l := Nat.two_pow_pos _
  obtain ⟨M, hM⟩ : ∃ M, 2 ^ nd l = M := ⟨_, rfl⟩
  rw [hM] at PW h2l h2p
  obtain ⟨M1, hM1⟩ : ∃ M1, M - 1 = M1 := ⟨_, rfl⟩
  have Mz : (M : Int) - 1 = (M1 : Int) := by omega
  have HM : Hid (M1 < 2 * l) := by show _ < _; omega
  have HM0 : M ≤ 2000 := by omega
  have EX : Hid (Ext w (w.alloc (.cells #[.int .u64 (l : Nat)] 61))) := (Ext.refl w).alloc _
  have UB : Hid (UA (w.alloc (.cells #[.int .u64 (l : Nat)] 61)) B d r) := hr.ext EX.out
  have BX : Hid (Box64 (w.alloc (.cells #[.int .u64 (l : Nat)] 61)) w.heap.size) := ⟨_, by
    show (w.alloc _).heap[w.heap.size]? = _
    rw [heap_alloc_new]⟩
  have NE : Hid (w.heap.size ≠ B) := by have := hr.lt; show _ ≠ _; omega
  clear hr hn hl hq hm hm0 hM hM1 h2l h2p
  go_enter Tryd.func36, Tryd.ntmps36
  go_wp2_with fail
  refine (PW _).mono ?_
  rintro e w0 ⟨rfl, rfl⟩
  clear PW
  have K0 : Hid (KB B w (w.alloc (.cells #[.int .u64 (l : Nat)] 61))) := KB.of_ext EX.out
  have hs := EX.out.size
  clear EX
  generalize hW : w.alloc (.cells #[.int .u64 (l : Nat)] 61) = W0 at *
  clear hW hs
  go_wp2
  go_loopg [9, 10] 3 (fun gg s9 _ wr => ∃ i : Nat, m0 ≤ i ∧ i ≤ m + 2 ∧ m + 2 - i ≤ gg ∧ s9 = .int .i64 i ∧ Aside (KB B w wr) ∧ Aside (Box64 wr w.heap.size) ∧ Aside (∃ s, PermIn a b d s ∧ UA wr B s r))
  case atStart => exact ⟨m0, Nat.le_refl _, by omega, by omega, by go_num, K0.out, BX.out, d, permIn_refl d a b, UB.out⟩
  case round =>
    clear K0 BX UB m0z
    obtain ⟨i, hi1, hi2, hg, rfl, KW, XW, A⟩ := hrel
    by_cases him : i ≤ m + 1
    · have himz : (i : Int) ≤ (m : Int) + 1 := by omega
      obtain ⟨s, P0, U0⟩ := A.out
      have P : Hid (PermIn a b d s) := P0
      have U : Hid (UA wr B s r) := U0
      have NX := next_any w.heap.size wr XW.out
      clear A P0 U0
      go_wp2_with fail
      refine NX.mono ?_
      rintro e w1 ⟨u, rfl, X3, k1⟩
      have U3 : Hid (UA w1 B s r) := Row.kb U.out k1.out (fun h => NE.out h.symm)
      have K3 : Hid (KB B w w1) := KW.out.two k1.out (Nat.le_refl _)
      clear NX U KW XW k1
      obtain ⟨t, ht, htm⟩ := mask_any u M1 (by have := HM.out; omega)
      have ht2 : t < 2 * l := by have := HM.out; omega
      clear htm
      by_cases htl : l ≤ t
      · have htlz : (t : Int) ≥ (l : Int) := by omega
        obtain ⟨o, ho⟩ : ∃ o, t - l = o := ⟨_, rfl⟩
        have hoz : (t : Int) - (l : Int) = (o : Int) := by omega
        have hol : o < l := by omega
        clear ho ht2
        have sz : s.size = n := P.out.1.trans SZ.out
        obtain ⟨x1, x2, x3, e1, e2, f1, f2, e4, f4, USW, SSW, KSW⟩ := ua_ready U3.out sz i (a + o) (by omega) (by have := hal.out; omega)
        have P2 : Hid (PermIn a b d (swp s i (a + o))) := permIn_trans _ _ _ _ _ P.out (swp_permIn s a b i (a + o) (by omega) (by omega) (by omega) (by have := hal.out; omega) (by omega))
        have b1 : (i : Int) < (n : Int) := by omega
        have b2 : (a : Int) + (o : Int) < (n : Int) := by have := hal.out; omega
        clear U3 P sz
        go_wp2
        go_region
        have B4 : Hid (KB B w (((w1.setCell ⟨B, i, none⟩ (.int .u32 (x2 : Nat))).setCell ⟨B, a + o, none⟩ (.int .u32 (x1 : Nat))).drew)) := K3.out.trans KSW.out
        have X4 : Hid (Box64 (((w1.setCell ⟨B, i, none⟩ (.int .u32 (x2 : Nat))).setCell ⟨B, a + o, none⟩ (.int .u32 (x1 : Nat))).drew) w.heap.size) := X3.out.kb KSW.out NE.out
        clear K3 KSW X3 e1 e2 f1 f2 e4 f4
        generalize ((w1.setCell ⟨B, i, none⟩ (.int .u32 (x2 : Nat))).setCell ⟨B, a + o, none⟩ (.int .u32 (x1 : Nat))).drew = W3 at *
        go_wp2
        go_roundg (m + 2 - (i + 1))
        case measure => omega
        case rel => exact ⟨i + 1, by omega, by omega, by omega, by go_num, B4.out, X4.out, _, P2.out, USW.out⟩
      · have htlz : ¬ (t : Int) ≥ (l : Int) := by omega
        have hol : t < l := by omega
        clear ht2
        have sz : s.size = n := P.out.1.trans SZ.out
        obtain ⟨x1, x2, x3, e1, e2, f1, f2, e4, f4, USW, SSW, KSW⟩ := ua_ready U3.out sz i (a + t) (by omega) (by have := hal.out; omega)
        have P2 : Hid (PermIn a b d (swp s i (a + t))) := permIn_trans _ _ _ _ _ P.out (swp_permIn s a b i (a + t) (by omega) (by omega) (by omega) (by have := hal.out; omega) (by omega))
        have b1 : (i : Int) < (n : Int) := by omega
        have b2 : (a : Int) + (t : Int) < (n : Int) := by have := hal.out; omega
        clear U3 P sz
        go_wp2
        go_region
        have B4 : Hid (KB B w (((w1.setCell ⟨B, i, none⟩ (.int .u32 (x2 : Nat))).setCell ⟨B, a + t, none⟩ (.int .u32 (x1 : Nat))).drew)) := K3.out.trans KSW.out
        have X4 : Hid (Box64 (((w1.setCell ⟨B, i, none⟩ (.int .u32 (x2 : Nat))).setCell ⟨B, a + t, none⟩ (.int .u32 (x1 : Nat))).drew) w.heap.size) := X3.out.kb KSW.out NE.out
        clear K3 KSW X3 e1 e2 f1 f2 e4 f4
        generalize ((w1.setCell ⟨B, i, none⟩ (.int .u32 (x2 : Nat))).setCell ⟨B, a + t, none⟩ (.int .u32 (x1 : Nat))).drew = W3 at *
        go_wp2
        go_roundg (m + 2 - (i + 1))
        case measure => omega
        case rel => exact ⟨i + 1, by omega, by omega, by omega, by go_num, B4.out, X4.out, _, P2.out, USW.out⟩
    · have himz : ¬ (i : Int) ≤ (m : Int) + 1 := by omega
      have F : Hid (∃ s, PermIn a b d s ∧ UA wr B s r) := A.out
      clear A
      go_wp2
      go_end0
      exact ⟨rfl, F, KW.out⟩

end Go.Proofs.YtdfjjjcaibadoabDoor
