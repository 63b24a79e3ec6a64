/-
  turn.sorted; cmp.Compare of bytes; bytes.Compare.
-/
import Derived.Test.YtkccdhidmihekaaStb
import Derived.Test.YtkccdhidmihekaaFr2
namespace Go.Proofs.Ytkccdhidmihekaa
open Go.RowKit

/-- A list of numbers sorted so. -/
def SrtN (key : Int → Int) (n : Nat) (l : List Int) : Prop := l.Perm (upI n) ∧ l.Pairwise (LexI key)

theorem upI_succ (k : Nat) : upI (k + 1) = upI k ++ [(k : Int)] := by
  unfold upI
  rw [List.range_succ, List.map_append]
  rfl

set_option maxHeartbeats 2000000 in
theorem sorted_any (w : World) (n f : Nat) (lb : Array Value) (key : Int → Int) (hn : n ≤ 64) (eg : ∀ args w, (callFunc f args).run Try.prog w = .ok (.enter f args) w) (hc : CmpOn w f lb key (upI n)) :
    Calls Try.prog 30 #[.int .i64 n, .func (.func f) #[] lb] w fun e w' => ∃ x : Nm, e = .returned x.v ∧ Hid (SrtN key n x.z) ∧ Nums w' x ∧ Ext w w' := by
  have HS : Hid (∀ W, Ext w W → Row W w.heap.size 3 (iv (upI n)) → Calls Try.prog 38 #[.slice (some ⟨w.heap.size, 0, none⟩) n n, .func (.func f) #[] lb] W fun e w' => e = .returned (.tuple #[]) ∧ Hid (Done key w' w.heap.size n) ∧ Hid (KB w.heap.size W w')) :=
    fun W hE hr => sortStable_any w W w.heap.size n n f lb key (Nat.le_refl _) hE hr hn eg hc
  clear hc eg
  have st : Hid (∃ W, W = w.alloc (.cells (madeCells #[.int .i64 0] n) 3) ∧ Ext w W ∧ Row W w.heap.size 3 (iv (upI 0 ++ List.replicate (n - 0) 0))) := by
    refine ⟨_, rfl, (Ext.refl _).alloc _, ?_⟩
    have := Row.made w 3 (.int .i64 0) n
    simpa [upI] using this
  have hmk := run_make_row' (P := Try.prog) 35 3 (.int .i64 0) 8 Try.underlying35 info3 rfl .i64 .i64 n (by omega) (by omega)
  go_enter Try.func30, Try.ntmps30
  go_wp2
  obtain ⟨W, hW, hE, hR⟩ := st.out
  rw [← hW]
  have HE : Hid (Ext w W) := hE
  have HR : Hid (Row W w.heap.size 3 (iv (upI 0 ++ List.replicate (n - 0) 0))) := hR
  clear hW hE hR st hmk
  go_loopg [6, 11] n (fun gg _ s wr => ∃ k : Nat, k ≤ n ∧ n - k ≤ gg ∧ s = .int .i64 k ∧ Aside (Ext w wr) ∧ Aside (Row wr w.heap.size 3 (iv (upI k ++ List.replicate (n - k) 0))))
  case atStart => exact ⟨0, Nat.zero_le _, by omega, rfl, HE.out, HR.out⟩
  case round =>
    obtain ⟨k, hk, hgg, rfl, BW, A⟩ := hrel
    clear HE HR
    by_cases hlt : k < n
    · have hltz : (k : Int) < (n : Int) := by omega
      have f1 := A.out.fr k
      have c1 : ∃ v, wr.cell? ⟨w.heap.size, k, none⟩ = some v := ⟨_, A.out.cell k (by simp [upI]; omega)⟩
      obtain ⟨v, c1⟩ := c1
      have nx : Hid (Row (wr.setCell ⟨w.heap.size, k, none⟩ (.int .i64 k)) w.heap.size 3 (iv (upI (k + 1) ++ List.replicate (n - (k + 1)) 0))) := by
        rw [upI_succ]
        exact fill_nums wr _ k n (upI k) k (upI_length k) hlt A.out
      have nE : Hid (Ext w (wr.setCell ⟨w.heap.size, k, none⟩ (.int .i64 k))) := BW.out.setCell (Nat.le_refl _) _
      go_wp2
      go_roundg (n - (k + 1))
      case measure => omega
      case rel => exact ⟨k + 1, by omega, by omega, by go_num, nE.out, nx.out⟩
    · have hk' : k = n := by omega
      have HR2 : Hid (Row wr w.heap.size 3 (iv (upI n))) := by
        have := A.out
        rw [hk', Nat.sub_self, List.replicate_zero, List.append_nil] at this
        exact this
      have C := HS.out wr BW.out HR2.out
      clear A HS
      go_wp2_with fail
      refine C.mono ?_
      rintro e w2 ⟨rfl, h1, h2⟩
      have F : Hid (∃ x : Nm, Value.slice (some ⟨w.heap.size, 0, none⟩) n n = x.v ∧ SrtN key n x.z ∧ Nums w2 x ∧ Ext w w2) := by
        obtain ⟨l, r1, r2, r3⟩ := h1.out
        have hl : l.length = n := by rw [r2.length_eq, upI_length]
        refine ⟨⟨some ⟨w.heap.size, 0, none⟩, n, l⟩, ?_, ⟨r2, r3⟩, ?_, h2.out.ext BW.out (Nat.le_refl _)⟩
        · simp only [Nm.v]; rw [hl]
        · have := r1.nums (by rw [hl]; unfold maxLen; omega)
          rw [hl] at this
          exact this
      clear h1 h2 C
      go_wp2
      go_ret
      obtain ⟨x, hx, hz, hn, hE⟩ := F.out
      exact ⟨x, congrArg Ending.returned hx, hz, hn, hE⟩

set_option maxHeartbeats 400000 in
theorem isNaN_any (x : Int) (w : World) : Calls Try.prog 40 #[.int .u8 x] w fun e w' => e = .returned (.bool false) ∧ w' = w := by
  go_enter Try.func40, Try.ntmps40
  go_wp2
  go_ret
  exact ⟨ret_bool (by simp), rfl⟩

set_option maxHeartbeats 400000 in
theorem compare_any (x y : Int) (w : World) : Calls Try.prog 34 #[.int .u8 x, .int .u8 y] w fun e w' => e = .returned (.int .i64 (cmpI x y)) ∧ w' = w := by
  have H : ∀ z W, Calls Try.prog 40 #[.int .u8 z] W fun e w' => e = .returned (.bool false) ∧ w' = W := fun z W => isNaN_any z W
  have HH : Hid (∀ z W, Calls Try.prog 40 #[.int .u8 z] W fun e w' => e = .returned (.bool false) ∧ w' = W) := H
  clear H
  rcases Int.lt_trichotomy x y with h | h | h
  · rw [cmpI_lt h]
    go_enter Try.func34, Try.ntmps34
    go_wp2_with (go_at_call 40; refine (HH.out _ _).mono ?_; rintro e w' ⟨rfl, rfl⟩)
    go_ret
    exact ⟨rfl, rfl⟩
  · rw [cmpI_eq h]
    subst h
    go_enter Try.func34, Try.ntmps34
    go_wp2_with (go_at_call 40; refine (HH.out _ _).mono ?_; rintro e w' ⟨rfl, rfl⟩)
    go_ret
    exact ⟨rfl, rfl⟩
  · rw [cmpI_gt h]
    have h2 : ¬ x < y := by omega
    go_enter Try.func34, Try.ntmps34
    go_wp2_with (go_at_call 40; refine (HH.out _ _).mono ?_; rintro e w' ⟨rfl, rfl⟩)
    go_ret
    exact ⟨rfl, rfl⟩

theorem run_bytesOf (x : Wd) (w : World) (hx : Bits w x) : (Extern.Bytes.bytesOf x.v).run Try.prog w = .ok ⟨(Lib.bytesOf x.l).toArray⟩ w := by
  obtain ⟨a, c, l⟩ := x
  obtain ⟨h1, h2, h0, b, o, h3, h4⟩ := hx
  simp only [Wd.v] at *
  cases a with
  | none =>
    have : l = [] := List.eq_nil_of_length_eq_zero (by have := h0 rfl; omega)
    subst this
    rfl
  | some ad =>
    by_cases hl : l.length = 0
    · have : l = [] := List.eq_nil_of_length_eq_zero hl
      subst this
      have := Lib.run_loadBytesX (P := Try.prog) w [] ad .empty (fun j x hj => by simp at hj)
      simp only [Extern.Bytes.bytesOf]
      exact this
    · obtain e := h3 (by omega)
      injection e with e
      subst e
      have := Lib.run_loadBytesX (P := Try.prog) w l ⟨b, o, none⟩ .empty (fun j x hj => by
        have hjl : j < l.length := (List.getElem?_eq_some_iff.1 hj).1
        rw [Addr.add_lit, h4 j hjl, List.getD_eq_getElem?_getD, hj]
        rfl)
      simp only [Extern.Bytes.bytesOf]
      rw [this]
      congr 1
      apply ByteArray.ext
      show (#[] : Array UInt8) ++ (Lib.bytesOf l).toArray = (Lib.bytesOf l).toArray
      simp

theorem run_compareB (x y : Wd) (w : World) (hx : Bits w x) (hy : Bits w y) :
    (Extern.BytealgCompare.compare #[x.v, y.v]).run Try.prog w = .ok (.int .i64 (Lib.compareBytes (Lib.bytesOf x.l) (Lib.bytesOf y.l))) w := by
  change Sem.run Try.prog (do pure (goInt (Extern.BytealgCompare.cmp (← Extern.Bytes.bytesOf x.v) (← Extern.Bytes.bytesOf y.v)))) w = _
  simp only [Sem.run_bind, Sem.run_pure, run_bytesOf x w hx, run_bytesOf y w hy, Result.andThen]
  rw [Lib.cmp_eq]
  rfl

set_option maxHeartbeats 1000000 in
theorem bytesCompare_any (x y : Wd) (w : World) (hx : Bits w x) (hy : Bits w y) :
    Calls Try.prog 32 #[x.v, y.v] w fun e w' => e = .returned (.int .i64 (Lib.compareBytes (Lib.bytesOf x.l) (Lib.bytesOf y.l))) ∧ w' = w := by
  have hr := run_compareB x y w hx hy
  generalize Lib.compareBytes (Lib.bytesOf x.l) (Lib.bytesOf y.l) = r at *
  obtain ⟨xa, xc, xl⟩ := x
  obtain ⟨ya, yc, yl⟩ := y
  simp only [Wd.v] at *
  clear hx hy
  generalize xl.length = n at *
  generalize yl.length = m at *
  go_enter Try.func32, Try.ntmps32
  go_wp2
  rw [run_callFunc_extern Try.func39 (by kernel_rfl) (by kernel_rfl) (by kernel_rfl) (e := Extern.BytealgCompare.compare) (by kernel_rfl), hr]
  simp only [Result.andThen]
  rw [Oper.upon_value]
  go_wp2
  go_ret
  exact ⟨rfl, rfl⟩

end Go.Proofs.Ytkccdhidmihekaa
