/-
  turn.Front and turn.Unfront.
-/
import Derived.Test.YtkccdhidmihekaaFr1
import Derived.Test.YtkccdhidmihekaaNum
namespace Go.Proofs.Ytkccdhidmihekaa
open Go.RowKit

theorem u8_inj {x y : Int} (hx : x ∈ a256) (hy : y ∈ a256) (h : x.toNat.toUInt8 = y.toNat.toUInt8) : x = y := by
  have h1 := mem_a256.1 hx
  have h2 := mem_a256.1 hy
  have h3 := congrArg UInt8.toNat h
  simp only [Nat.toUInt8, UInt8.toNat_ofNat'] at h3
  rw [Nat.mod_eq_of_lt (by omega), Nat.mod_eq_of_lt (by omega)] at h3
  omega

theorem idx_byte : ∀ {L : List Int} {b : Int}, InB L → b ∈ a256 → b ∈ L → Lib.indexByte (Lib.bytesOf L) b.toNat.toUInt8 = (L.idxOf b : Int)
  | [], b, _, _, h => by simp at h
  | x :: L, b, hL, hb, hm => by
    show Lib.indexByte (UInt8.ofNat x.toNat :: Lib.bytesOf L) b.toNat.toUInt8 = _
    unfold Lib.indexByte
    rw [List.idxOf_cons]
    by_cases hx : x = b
    · subst hx
      simp [Nat.toUInt8]
    · have h1 : (UInt8.ofNat x.toNat == b.toNat.toUInt8) = false := by
        rw [beq_eq_false_iff_ne]
        intro h
        exact hx (u8_inj (hL x (by simp)) hb h)
      have h2 : (x == b) = false := by simp [hx]
      have ih := idx_byte (L := L) (b := b) (fun y hy => hL y (by simp [hy])) hb (by
        rcases List.mem_cons.1 hm with h | h
        · exact absurd h.symm hx
        · exact h)
      rw [h1, h2, ih]
      have h3 : ((L.idxOf b : Int) == -1) = false := by rw [beq_eq_false_iff_ne]; omega
      rw [h3]
      simp

theorem front_large (x : Wd) (w : World) (hx : Bits w x) (h : 64 < x.l.length) :
    Calls Try.prog 14 #[x.v] w fun e w' => e = .returned (.tuple #[.slice none 0 0, .int .i64 1]) ∧ w' = w := by
  obtain ⟨a, c, l⟩ := x
  have h1 := hx.1
  have h2 := hx.2.1
  simp only [Wd.v] at *
  unfold maxLen at h2
  clear hx
  generalize l.length = n at *
  have hn : (n : Int) > 64 := by omega
  go_enter Try.func14, Try.ntmps14
  go_wp2
  go_ret2
  exact ⟨rfl, rfl⟩

theorem fill_nums (w : World) (B k n : Nat) (F : List Int) (y : Int) (hF : F.length = k) (hk : k < n) (h : Row w B 3 (iv (F ++ List.replicate (n - k) 0))) : Row (w.setCell ⟨B, k, none⟩ (.int .i64 y)) B 3 (iv (F ++ [y] ++ List.replicate (n - (k + 1)) 0)) := by
  have := h.set k (.int .i64 y)
  have e : (iv (F ++ List.replicate (n - k) 0)).set k (.int .i64 y) = iv (F ++ [y] ++ List.replicate (n - (k + 1)) 0) := by
    obtain ⟨d, rfl⟩ : ∃ d, n = k + 1 + d := ⟨n - (k + 1), by omega⟩
    rw [show k + 1 + d - k = d + 1 by omega, show k + 1 + d - (k + 1) = d by omega]
    have hl : (F.map (Value.int .i64)).length = k := by simp [hF]
    unfold iv
    rw [List.map_append, List.set_append, if_neg (by omega), hl, Nat.sub_self, List.replicate_succ]
    simp
  rw [e] at this
  exact this

theorem frs_take {t : List Int} {k : Nat} (h : k < t.length) : (frs t).take (k + 1) = (frs t).take k ++ [((ls (t.take k).reverse).idxOf (t.getD k 0) : Int)] := by
  have hk : k < (frs t).length := by rw [frs_length]; exact h
  rw [List.take_succ_eq_append_getElem hk]
  simp [frs]

theorem ls_inB {r : List Int} (h : InB r) : InB (ls r) := fun _ hx => (mem_ls h).1 hx
theorem inB_take {t : List Int} (h : InB t) (k : Nat) : InB (t.take k).reverse := fun x hx => h x (List.mem_of_mem_take (by simpa using hx))
theorem inB_at {t : List Int} (h : InB t) {k : Nat} (hk : k < t.length) : t.getD k 0 ∈ a256 := by
  have : t.getD k 0 = t[k] := by simp [List.getD_eq_getElem?_getD, hk]
  rw [this]
  exact h _ (List.getElem_mem hk)

/-- What lies in memory at byte k of Front. -/
structure FM (t : List Int) (w wr : World) (B0 B1 k : Nat) : Prop where
  ext : Ext w wr
  list : Row wr B0 5 (bv (ls (t.take k).reverse))
  out : Row wr B1 3 (iv ((frs t).take k ++ List.replicate (t.length - k) 0))

set_option maxHeartbeats 2000000 in
theorem front_good (x : Wd) (w : World) (hx : Bits w x) (hb : InB x.l) (h : x.l.length ≤ 64) :
    Calls Try.prog 14 #[x.v] w fun e w' => ∃ y : Nm, e = .returned (.tuple #[y.v, .int .i64 0]) ∧ y.z = frs x.l ∧ Nums w' y ∧ Ext w w' := by
  obtain ⟨a, c, l⟩ := x
  obtain ⟨h1, h2, h0, b, o, h3, h4⟩ := hx
  simp only [Wd.v] at *
  obtain ⟨n, hn⟩ : ∃ n, l.length = n := ⟨_, rfl⟩
  have HN : Hid (l.length = n) := hn
  have HB : Hid (InB l) := hb
  rw [hn] at h1 h h3 h4 ⊢
  clear hn hb h2 h1
  have hn64 : ¬ ((n : Int) > 64) := by omega
  have H4 : Hid (∀ i, i < n → w.cell? ⟨b, o + i, none⟩ = some (.int .u8 (l.getD i 0))) := h4
  clear h4
  have hmk := run_make_row' (P := Try.prog) 35 3 (.int .i64 0) 8 Try.underlying35 info3 rfl .i64 .i64 n (by omega) (by omega)
  have HAll : Hid (∀ W, Calls Try.prog 24 #[] W fun e w' => e = .returned (.slice (some ⟨W.heap.size, 0, none⟩) 256 256) ∧ Hid (Row w' W.heap.size 5 (bv a256)) ∧ Ext W w') := allBytes_any
  have HIx : Hid (∀ (B : Nat) (L : List Int) (b : Int) (W : World), Row W B 5 (bv L) → L.length = 256 → Calls Try.prog 25 #[.slice (some ⟨B, 0, none⟩) 256 256, .int .u8 b] W fun e w' => e = .returned (.int .i64 (Lib.indexByte (Lib.bytesOf L) b.toNat.toUInt8)) ∧ w' = W) := fun B L b W hr hl => indexByte_any B L b W hr 256 hl
  have HTf : Hid (∀ (B p : Nat) (L : List Int) (W : World), Row W B 5 (bv L) → L.length = 256 → p < 256 → Calls Try.prog 26 #[.slice (some ⟨B, 0, none⟩) 256 256, .int .i64 p] W fun e w' => e = .returned (.tuple #[]) ∧ Row w' B 5 (bv (tf L p)) ∧ KB B W w') := toFront_any
  go_enter Try.func14, Try.ntmps14
  go_wp2_with (go_at_call 24; refine (HAll.out _).mono ?_; rintro e w1 ⟨rfl, R1, E1⟩)
  obtain ⟨W, hW⟩ : ∃ W, W = w1.alloc (.cells (madeCells #[.int .i64 0] n) 3) := ⟨_, rfl⟩
  have hlt1 : w.heap.size < w1.heap.size := R1.out.lt
  have M0 : Hid (FM l w W w.heap.size w1.heap.size 0) := by
    rw [hW]
    refine ⟨E1.alloc _, ?_, ?_⟩
    · have := R1.out.ext ((Ext.refl w1).alloc (.cells (madeCells #[.int .i64 0] n) 3))
      simpa [ls] using this
    · have := Row.made w1 3 (.int .i64 0) n
      rw [HN.out]
      simpa using this
  rw [← hW]
  clear hW hmk R1 E1
  obtain ⟨B1, hB1⟩ : ∃ B1, w1.heap.size = B1 := ⟨_, rfl⟩
  obtain ⟨B0, hB0⟩ : ∃ B0, w.heap.size = B0 := ⟨_, rfl⟩
  rw [hB1] at M0 hlt1 ⊢
  rw [hB0] at M0 hlt1 ⊢
  have HB0 : Hid (w.heap.size = B0) := hB0
  clear hB0 hB1
  go_loopg [6, 7, 17] n (fun gg _ _ s wr => ∃ k : Nat, k ≤ n ∧ n - k ≤ gg ∧ s = .int .i64 k ∧ Aside (FM l w wr B0 B1 k))
  case atStart => exact ⟨0, by omega, by omega, rfl, M0.out⟩
  case round =>
    obtain ⟨k, hk, hgg, rfl, A⟩ := hrel
    clear M0
    by_cases hlt : k < n
    · have hltz : (k : Int) < (n : Int) := by omega
      obtain rfl := h3 (by omega)
      have hkl : k < l.length := by rw [HN.out]; exact hlt
      have e1 := A.out.ext.cell (H4.out k hlt)
      have hin := inB_take HB.out k
      have hm := inB_at HB.out hkl
      have hix : Hid (Lib.indexByte (Lib.bytesOf (ls (l.take k).reverse)) (l.getD k 0).toNat.toUInt8 = ((ls (l.take k).reverse).idxOf (l.getD k 0) : Int)) := idx_byte (ls_inB hin) hm ((mem_ls hin).2 hm)
      have hp := ls_idx_lt hin hm
      have hft : Hid ((frs l).take (k + 1) = (frs l).take k ++ [((ls (l.take k).reverse).idxOf (l.getD k 0) : Int)]) := frs_take hkl
      have hlx : Hid (ls (l.take (k + 1)).reverse = tf (ls (l.take k).reverse) ((ls (l.take k).reverse).idxOf (l.getD k 0))) := by
        show _ = _
        rw [take_rev_succ hkl, ls]
      have hL : Hid ((ls (l.take k).reverse).length = 256) := ls_length hin
      have I1 : Hid (Calls Try.prog 25 #[.slice (some ⟨B0, 0, none⟩) 256 256, .int .u8 (l.getD k 0)] wr fun e w' => e = .returned (.int .i64 ((ls (l.take k).reverse).idxOf (l.getD k 0) : Int)) ∧ w' = wr) := by
        have := HIx.out B0 _ (l.getD k 0) wr A.out.list hL.out
        rw [hix.out] at this
        exact this
      have hfl : Hid (((frs l).take k).length = k) := by show _ = _; rw [List.length_take, frs_length]; omega
      have S1 : Hid (Row (wr.setCell ⟨B1, k, none⟩ (.int .i64 ((ls (l.take k).reverse).idxOf (l.getD k 0) : Int))) B1 3 (iv ((frs l).take (k + 1) ++ List.replicate (n - (k + 1)) 0))) := by
        have := A.out.out
        rw [HN.out] at this
        have := fill_nums wr B1 k n _ ((ls (l.take k).reverse).idxOf (l.getD k 0) : Int) hfl.out hlt this
        rw [← hft.out] at this
        exact this
      have S0 : Hid (Row (wr.setCell ⟨B1, k, none⟩ (.int .i64 ((ls (l.take k).reverse).idxOf (l.getD k 0) : Int))) B0 5 (bv (ls (l.take k).reverse))) := A.out.list.other _ (show B1 ≠ B0 by omega) _
      have SE : Hid (Ext w (wr.setCell ⟨B1, k, none⟩ (.int .i64 ((ls (l.take k).reverse).idxOf (l.getD k 0) : Int)))) := A.out.ext.setCell (by show w.heap.size ≤ B1; rw [HB0.out]; omega) _
      have f1 := A.out.out.fr k
      obtain ⟨v1, c1⟩ : ∃ v, wr.cell? ⟨B1, k, none⟩ = some v := ⟨_, A.out.out.cell k (by simp; have := hfl.out; simp at this; omega)⟩
      clear A hix hft hin hm
      generalize l.getD k 0 = y at *
      generalize (ls (l.take k).reverse).idxOf y = p at *
      generalize ls (l.take k).reverse = L at *
      have hpz : (p : Int) < 256 := by omega
      have NX : Hid (∀ W', Row W' B0 5 (bv (tf L p)) ∧ KB B0 (wr.setCell ⟨B1, k, none⟩ (.int .i64 (p : Int))) W' → FM l w W' B0 B1 (k + 1)) := by
        rintro W' ⟨r1, r2⟩
        refine ⟨r2.ext SE.out (by rw [HB0.out]; omega), ?_, ?_⟩
        · rw [hlx.out]; exact r1
        · rw [HN.out]
          exact S1.out.kb r2 (by omega)
      have T1 := HTf.out B0 p L _ S0.out hL.out hp
      clear hlx hL S0 S1 SE HAll HIx HTf
      go_wp2_with (first | (go_at_call 25; refine I1.out.mono ?_; rintro e w2 ⟨rfl, rfl⟩) | (go_at_call 26; refine T1.mono ?_; rintro e w3 ⟨rfl, r1, r2⟩))
      have NX2 : Hid (FM l w w3 B0 B1 (k + 1)) := NX.out w3 ⟨r1, r2⟩
      go_roundg (n - (k + 1))
      case measure => omega
      case rel => exact ⟨k + 1, by omega, by omega, by go_num, NX2.out⟩
    · have hk' : k = n := by omega
      subst hk'
      have F : Hid (∃ y : Nm, Value.slice (some ⟨B1, 0, none⟩) k k = y.v ∧ y.z = frs l ∧ Nums wr y ∧ Ext w wr) := by
        have r := A.out.out
        rw [HN.out, Nat.sub_self, List.replicate_zero, List.append_nil, List.take_of_length_le (by rw [frs_length, HN.out]; omega)] at r
        refine ⟨⟨some ⟨B1, 0, none⟩, k, frs l⟩, ?_, rfl, ?_, A.out.ext⟩
        · simp only [Nm.v]; rw [frs_length, HN.out]
        · have := r.nums (by rw [frs_length, HN.out]; unfold maxLen; omega)
          rw [frs_length, HN.out] at this
          exact this
      clear A
      go_wp2
      go_ret2
      obtain ⟨y, e1, e2, e3, e4⟩ := F.out
      exact ⟨y, congrArg (fun v => Ending.returned (.tuple #[v, .int .i64 0])) e1, e2, e3, e4⟩

/-- No place. -/
def outN (x : Int) : Bool := decide (x < 0) || decide (256 ≤ x)

set_option maxHeartbeats 400000 in
theorem outside_any (x : Int) (w : World) : Calls Try.prog 27 #[.int .i64 x] w fun e w' => e = .returned (.bool (outN x)) ∧ Ext w w' := by
  by_cases h : x < 0
  · have ho : Hid (outN x = true) := by show _ = _; simp [outN, h]
    go_enter Try.func27, Try.ntmps27
    go_wp2
    go_ret
    exact ⟨ret_bool ho.out.symm, Ext.refl _⟩
  · by_cases h2 : 256 ≤ x
    · have ho : Hid (outN x = true) := by show _ = _; simp [outN, h2]
      go_enter Try.func27, Try.ntmps27
      go_wp2
      go_ret
      exact ⟨ret_bool ho.out.symm, Ext.refl _⟩
    · have ho : Hid (outN x = false) := by show _ = _; simp [outN, h, h2]
      go_enter Try.func27, Try.ntmps27
      go_wp2
      go_ret
      exact ⟨ret_bool ho.out.symm, Ext.refl _⟩

theorem eg27 : ∀ args w, (callFunc 27 args).run Try.prog w = .ok (.enter 27 args) w := enters_of Try.func27 (by kernel_rfl) rfl

theorem pred27 (w : World) (g : List Int) : PredInt w 27 #[] outN g := fun W x _ _ => outside_any x W

theorem unfront_large (x : Nm) (w : World) (hx : Nums w x) (h : 64 < x.z.length) :
    Calls Try.prog 17 #[x.v] w fun e w' => e = .returned (.tuple #[.slice none 0 0, .int .i64 1]) ∧ Ext w w' := by
  obtain ⟨a, c, l⟩ := x
  have h1 := hx.1
  have h2 := hx.2.1
  simp only [Nm.v] at *
  unfold maxLen at h2
  clear hx
  generalize l.length = n at *
  have hn : (n : Int) > 64 := by omega
  go_enter Try.func17, Try.ntmps17
  go_wp2
  go_ret2
  exact ⟨rfl, Ext.refl _⟩

set_option maxHeartbeats 1000000 in
theorem unfront_range (x : Nm) (w : World) (hx : Nums w x) (h : x.z.length ≤ 64) (hr : x.z.any outN = true) :
    Calls Try.prog 17 #[x.v] w fun e w' => e = .returned (.tuple #[.slice none 0 0, .int .i64 4]) ∧ Ext w w' := by
  obtain ⟨a, c, l⟩ := x
  have HC := containsN_any a c l 27 #[] outN w eg27 hx (pred27 w l)
  rw [hr] at HC
  have h2 := hx.2.1
  simp only [Nm.v] at *
  unfold maxLen at h2
  clear hx hr
  generalize l.length = n at *
  have hn : ¬ (n : Int) > 64 := by omega
  go_enter Try.func17, Try.ntmps17
  go_wp2_with (go_at_call 28; refine HC.mono ?_; rintro e w1 ⟨rfl, E1⟩)
  go_ret2
  exact ⟨rfl, E1⟩

/-- What lies in memory at number k of Unfront. -/
structure UM (z : List Int) (w wr : World) (B0 B1 k : Nat) : Prop where
  ext : Ext w wr
  list : Row wr B0 5 (bv (ls (rr z k)))
  out : Row wr B1 5 (bv ((rr z k).reverse ++ List.replicate (z.length - k) 0))

theorem fill_bytes2 (w : World) (B k n : Nat) (F : List Int) (y : Int) (hF : F.length = k) (hk : k < n) (h : Row w B 5 (bv (F ++ List.replicate (n - k) 0))) : Row (w.setCell ⟨B, k, none⟩ (.int .u8 y)) B 5 (bv (F ++ [y] ++ List.replicate (n - (k + 1)) 0)) := by
  have := h.set k (.int .u8 y)
  have e : (bv (F ++ List.replicate (n - k) 0)).set k (.int .u8 y) = bv (F ++ [y] ++ List.replicate (n - (k + 1)) 0) := by
    obtain ⟨d, rfl⟩ : ∃ d, n = k + 1 + d := ⟨n - (k + 1), by omega⟩
    rw [show k + 1 + d - k = d + 1 by omega, show k + 1 + d - (k + 1) = d by omega]
    have hl : (F.map (Value.int .u8)).length = k := by simp [hF]
    unfold bv
    rw [List.map_append, List.set_append, if_neg (by omega), hl, Nat.sub_self, List.replicate_succ]
    simp
  rw [e] at this
  exact this

set_option maxHeartbeats 2000000 in
theorem unfront_good (x : Nm) (w : World) (hx : Nums w x) (h : x.z.length ≤ 64) (hr : x.z.any outN = false) :
    Calls Try.prog 17 #[x.v] w fun e w' => ∃ y : Wd, e = .returned (.tuple #[y.v, .int .i64 0]) ∧ y.l = (rr x.z x.z.length).reverse ∧ Bits w' y ∧ Ext w w' := by
  obtain ⟨a, c, l⟩ := x
  have HC := containsN_any a c l 27 #[] outN w eg27 hx (pred27 w l)
  rw [hr] at HC
  have hz : ∀ y ∈ l, 0 ≤ y ∧ y < 256 := by
    intro y hy
    have h5 := List.any_eq_false.1 hr y hy
    simp [outN] at h5
    omega
  obtain ⟨h1, h2, h0, b, o, h3, h4⟩ := hx
  simp only [Nm.v] at *
  obtain ⟨n, hn⟩ : ∃ n, l.length = n := ⟨_, rfl⟩
  have HN : Hid (l.length = n) := hn
  have HZ : Hid (∀ y ∈ l, 0 ≤ y ∧ y < 256) := hz
  rw [hn] at h1 h h3 h4 HC ⊢
  clear hn h2 h1 hz hr
  have hn64 : ¬ ((n : Int) > 64) := by omega
  have H4 : Hid (∀ i, i < n → w.cell? ⟨b, o + i, none⟩ = some (.int .i64 (l.getD i 0))) := h4
  clear h4
  have hmk := run_make_row' (P := Try.prog) 22 5 (.int .u8 0) 1 Try.underlying22 info5 rfl .i64 .i64 n (by omega) (by omega)
  have HAll : Hid (∀ W, Calls Try.prog 24 #[] W fun e w' => e = .returned (.slice (some ⟨W.heap.size, 0, none⟩) 256 256) ∧ Hid (Row w' W.heap.size 5 (bv a256)) ∧ Ext W w') := allBytes_any
  have HTf : Hid (∀ (B p : Nat) (L : List Int) (W : World), Row W B 5 (bv L) → L.length = 256 → p < 256 → Calls Try.prog 26 #[.slice (some ⟨B, 0, none⟩) 256 256, .int .i64 p] W fun e w' => e = .returned (.tuple #[]) ∧ Row w' B 5 (bv (tf L p)) ∧ KB B W w') := toFront_any
  go_enter Try.func17, Try.ntmps17
  go_wp2_with (first | (go_at_call 28; refine HC.mono ?_; rintro e w0 ⟨rfl, E0⟩) | (go_at_call 24; refine (HAll.out _).mono ?_; rintro e w1 ⟨rfl, R1, E1⟩))
  obtain ⟨W, hW⟩ : ∃ W, W = w1.alloc (.cells (madeCells #[.int .u8 0] n) 5) := ⟨_, rfl⟩
  have hlt1 : w0.heap.size < w1.heap.size := R1.out.lt
  have hlt0 : w.heap.size ≤ w0.heap.size := E0.size
  have M0 : Hid (UM l w W w0.heap.size w1.heap.size 0) := by
    rw [hW]
    refine ⟨E0.trans (E1.alloc _), ?_, ?_⟩
    · have := R1.out.ext ((Ext.refl w1).alloc (.cells (madeCells #[.int .u8 0] n) 5))
      simpa [ls, rr] using this
    · have := Row.made w1 5 (.int .u8 0) n
      rw [HN.out]
      simpa [rr] using this
  rw [← hW]
  clear hW hmk R1 E1 E0 HC
  obtain ⟨B1, hB1⟩ : ∃ B1, w1.heap.size = B1 := ⟨_, rfl⟩
  obtain ⟨B0, hB0⟩ : ∃ B0, w0.heap.size = B0 := ⟨_, rfl⟩
  rw [hB1] at M0 hlt1 ⊢
  rw [hB0] at M0 hlt1 hlt0 ⊢
  have HB0 : Hid (w.heap.size ≤ B0) := hlt0
  clear hB0 hB1 hlt0
  go_loopg [7, 8, 21] n (fun gg _ _ s wr => ∃ k : Nat, k ≤ n ∧ n - k ≤ gg ∧ s = .int .i64 k ∧ Aside (UM l w wr B0 B1 k))
  case atStart => exact ⟨0, by omega, by omega, rfl, M0.out⟩
  case round =>
    obtain ⟨k, hk, hgg, rfl, A⟩ := hrel
    clear M0
    by_cases hlt : k < n
    · have hltz : (k : Int) < (n : Int) := by omega
      obtain rfl := h3 (by omega)
      have hkl : k < l.length := by rw [HN.out]; exact hlt
      have e1 := A.out.ext.cell (H4.out k hlt)
      have hin := rr_inB HZ.out k (by omega)
      have hzk : 0 ≤ l.getD k 0 ∧ l.getD k 0 < 256 := by
        have : l.getD k 0 = l[k] := by simp [List.getD_eq_getElem?_getD, hkl]
        rw [this]
        exact HZ.out _ (List.getElem_mem hkl)
      obtain ⟨p, hp⟩ : ∃ p : Nat, l.getD k 0 = (p : Int) := ⟨(l.getD k 0).toNat, by omega⟩
      have hp256 : p < 256 := by omega
      have hrr : Hid (rr l (k + 1) = (ls (rr l k)).getD p 0 :: rr l k) := by
        show _ = _
        rw [rr, hp, Int.toNat_natCast]
      have hlx : Hid (ls (rr l (k + 1)) = tf (ls (rr l k)) p) := by
        show _ = _
        rw [hrr.out, ls, ls_idx_at hin hp256]
      have hL : Hid ((ls (rr l k)).length = 256) := ls_length hin
      have hfl : Hid ((rr l k).reverse.length = k) := by show _ = _; rw [List.length_reverse, rr_length]
      rw [hp] at e1
      have e2 : wr.cell? ⟨B0, p, none⟩ = some (.int .u8 ((ls (rr l k)).getD p 0)) := by
        have h5 : p < (ls (rr l k)).length := by rw [hL.out]; exact hp256
        rw [A.out.list.cell p (by simpa using h5)]
        simp [List.getD_eq_getElem?_getD, h5]
      have S1 : Hid (Row (wr.setCell ⟨B1, k, none⟩ (.int .u8 ((ls (rr l k)).getD p 0))) B1 5 (bv ((rr l (k + 1)).reverse ++ List.replicate (n - (k + 1)) 0))) := by
        have := A.out.out
        rw [HN.out] at this
        have := fill_bytes2 wr B1 k n _ ((ls (rr l k)).getD p 0) hfl.out hlt this
        rw [hrr.out, List.reverse_cons]
        exact this
      have S0 : Hid (Row (wr.setCell ⟨B1, k, none⟩ (.int .u8 ((ls (rr l k)).getD p 0))) B0 5 (bv (ls (rr l k)))) := A.out.list.other _ (show B1 ≠ B0 by omega) _
      have SE : Hid (Ext w (wr.setCell ⟨B1, k, none⟩ (.int .u8 ((ls (rr l k)).getD p 0)))) := A.out.ext.setCell (by show w.heap.size ≤ B1; have := HB0.out; omega) _
      have f1 := A.out.out.fr k
      obtain ⟨v1, c1⟩ : ∃ v, wr.cell? ⟨B1, k, none⟩ = some v := ⟨_, A.out.out.cell k (by rw [List.length_map, List.length_append, hfl.out, List.length_replicate, HN.out]; omega)⟩
      clear A hin hrr hzk hp
      generalize (ls (rr l k)).getD p 0 = y at *
      generalize ls (rr l k) = L at *
      have hpz : (p : Int) < 256 := by omega
      have NX : Hid (∀ W', Row W' B0 5 (bv (tf L p)) ∧ KB B0 (wr.setCell ⟨B1, k, none⟩ (.int .u8 y)) W' → UM l w W' B0 B1 (k + 1)) := by
        rintro W' ⟨r1, r2⟩
        refine ⟨r2.ext SE.out HB0.out, ?_, ?_⟩
        · rw [hlx.out]; exact r1
        · rw [HN.out]
          exact S1.out.kb r2 (by omega)
      have T1 := HTf.out B0 p L _ S0.out hL.out hp256
      clear hlx hL S0 S1 SE HAll HTf
      go_wp2_with (go_at_call 26; refine T1.mono ?_; rintro e w3 ⟨rfl, r1, r2⟩)
      have NX2 : Hid (UM l w w3 B0 B1 (k + 1)) := NX.out w3 ⟨r1, r2⟩
      go_roundg (n - (k + 1))
      case measure => omega
      case rel => exact ⟨k + 1, by omega, by omega, by go_num, NX2.out⟩
    · have hk' : k = n := by omega
      subst hk'
      have F : Hid (∃ y : Wd, Value.slice (some ⟨B1, 0, none⟩) k k = y.v ∧ y.l = (rr l k).reverse ∧ Bits wr y ∧ Ext w wr) := by
        have r := A.out.out
        rw [HN.out, Nat.sub_self, List.replicate_zero, List.append_nil] at r
        have hl : (rr l k).reverse.length = k := by rw [List.length_reverse, rr_length]
        refine ⟨⟨some ⟨B1, 0, none⟩, k, (rr l k).reverse⟩, ?_, rfl, ?_, A.out.ext⟩
        · simp only [Wd.v]; rw [hl]
        · have := r.bits (by rw [hl]; unfold maxLen; omega)
          rw [hl] at this
          exact this
      clear A
      go_wp2
      go_ret2
      obtain ⟨y, e1, e2, e3, e4⟩ := F.out
      exact ⟨y, congrArg (fun v => Ending.returned (.tuple #[v, .int .i64 0])) e1, e2, e3, e4⟩

end Go.Proofs.Ytkccdhidmihekaa
