/-
  slices.heapSortOrdered of words.
-/
import Derived.Test.YtdfjjjcaibadoabDoorSd
namespace Go.Proofs.YtdfjjjcaibadoabDoor
open Go.RowKit Go.Sort

theorem heapBuild_succ (hi F k : Nat) (d : Array Nat) : heapBuild lt hi F (k + 1) d = heapBuild lt hi F k (siftDown lt hi F k d) := rfl
theorem heapBuild_zero (hi F : Nat) (d : Array Nat) : heapBuild lt hi F 0 d = d := rfl
theorem heapPop_succ (F k : Nat) (d : Array Nat) : heapPop lt F (k + 1) d = heapPop lt F k (siftDown lt k F 0 (swp d F (F + k))) := rfl
theorem heapPop_zero (F : Nat) (d : Array Nat) : heapPop lt F 0 d = d := rfl

set_option maxHeartbeats 4000000 in
theorem heap_any (B c n a b : Nat) (d : Array Nat) (r : List Value) (w : World) (hr : UA w B d r) (hn : d.size = n) (hn2 : n ≤ 1000) (hab : a < b) (hb : b ≤ n) :
    Calls Tryd.prog 35 #[.slice (some ⟨B, 0, none⟩) n c, .int .i64 a, .int .i64 b] w
      fun e w' => e = .returned (.tuple #[]) ∧ Hid (UA w' B (heapSort lt d a b) r) ∧ Hid (KB B w w') := by
  obtain ⟨h, hh⟩ : ∃ h, b - a = h := ⟨_, rfl⟩
  obtain ⟨g, hg⟩ : ∃ g, h - 1 = g := ⟨_, rfl⟩
  obtain ⟨m, hm⟩ : ∃ m, g / 2 = m := ⟨_, rfl⟩
  have hz1 : (b : Int) - (a : Int) = (h : Int) := by omega
  have hz2 : (h : Int) - 1 = (g : Int) := by omega
  have hz3 : (g : Int).tdiv 2 = (m : Int) := by
    rw [show (2 : Int) = ((2 : Nat) : Int) from rfl, ← Int.ofNat_tdiv, hm]
  have st : Hid (∃ s : Array Nat, UA w B s r ∧ s.size = n ∧ heapPop lt a h (heapBuild lt h a (m + 1) s) = heapSort lt d a b) := ⟨d, hr, hn, by unfold heapSort; rw [hh, hg, hm]⟩
  have hfit : a + h ≤ n := by omega
  have hgh : Hid (g + 1 = h) := by show _ = _; omega
  have hml : m < h := by omega
  have hgl : g < h := by omega
  generalize heapSort lt d a b = T at *
  have SI : Hid (∀ (W : World) (lo hi : Nat) (s : Array Nat), UA W B s r → s.size = n → a + hi ≤ n → lo ≤ 1000 → Calls Tryd.prog 44 #[.slice (some ⟨B, 0, none⟩) n c, .int .i64 lo, .int .i64 hi, .int .i64 a] W fun e w' => e = .returned (.tuple #[]) ∧ Hid (UA w' B (siftDown lt hi a lo s) r) ∧ Hid ((siftDown lt hi a lo s).size = n) ∧ Hid (KB B W w')) :=
    fun W lo hi s h1 h2 h3 h4 => sift_any B c n lo hi a s r W h1 h2 hn2 h3 h4
  clear hr hn hh hm hg
  go_enter Tryd.func35, Tryd.ntmps35
  go_wp2
  go_loopg [9] (m + 1) (fun gg s wr => ∃ (k : Nat) (i : Int), i = (k : Int) - 1 ∧ s = .int .i64 i ∧ k ≤ m + 1 ∧ k ≤ gg ∧ Aside (KB B w wr) ∧ Aside (∃ s, UA wr B s r ∧ s.size = n ∧ heapPop lt a h (heapBuild lt h a k s) = T))
  case atStart => exact ⟨m + 1, m, by omega, rfl, Nat.le_refl _, Nat.le_refl _, KB.refl _ _, st.out⟩
  case round =>
    obtain ⟨k, i, hi, rfl, hkm, hgg, BW, A⟩ := hrel
    clear st hz1 hz3
    cases k with
    | zero =>
      obtain rfl : i = -1 := by omega
      have st2 : Hid (∃ s, UA wr B s r ∧ s.size = n ∧ heapPop lt a h s = T) := A.out
      clear hi A
      go_wp2
      go_loopg [10] h (fun gg s wi => ∃ (k : Nat) (i : Int), i = (k : Int) - 1 ∧ s = .int .i64 i ∧ k ≤ h ∧ k ≤ gg ∧ Aside (KB B w wi) ∧ Aside (∃ s, UA wi B s r ∧ s.size = n ∧ heapPop lt a k s = T))
      case atStart => exact ⟨h, g, by have := hgh.out; omega, rfl, Nat.le_refl _, Nat.le_refl _, BW.out, st2.out⟩
      case round =>
        obtain ⟨k, i, hi, rfl, hkm2, hgg2, BW2, A⟩ := hrel
        clear st2 BW hz2
        cases k with
        | zero =>
          obtain rfl : i = -1 := by omega
          have fin : Hid (UA wr B T r) := by
            obtain ⟨s, h1, h2, h3⟩ := A.out
            rw [heapPop_zero] at h3
            rw [← h3]; exact h1
          clear hi A
          go_wp2
          go_end0
          exact ⟨rfl, fin, BW2.out⟩
        | succ k =>
          obtain rfl : i = (k : Int) := by omega
          obtain ⟨s, u1, u2, u3⟩ := A.out
          clear A
          rw [heapPop_succ] at u3
          rcases Nat.eq_zero_or_pos k with rfl | hk0
          · have e1 := u1.cell (i := a) (by omega)
            have f1 := u1.fr a
            have b1 : (a : Int) < (n : Int) := by omega
            have SW : Hid (∀ W, Qt wr W → UA ((W.setCell ⟨B, a, none⟩ (.int .u32 (s[a]! : Nat))).setCell ⟨B, a, none⟩ (.int .u32 (s[a]! : Nat))) B (swp s a (a)) r) := fun W hq => (u1.ext hq.ext).swp (by omega) (by omega)
            have SZ : Hid ((swp s a (a)).size = n) := by show _ = _; rw [size_swp]; exact u2
            have U3 : Hid (heapPop lt a 0 (siftDown lt 0 a 0 (swp s a (a))) = T) := u3
            clear u1 u2 u3 hi
            generalize swp s a (a) = s2 at *
            generalize s[a]! = x at *
            go_wp2
            go_region
            have U2 : UA (((wr.setCell ⟨B, a, none⟩ (.int .u32 (x : Nat))).setCell ⟨B, a, none⟩ (.int .u32 (x : Nat))).drew) B s2 r := (SW.out wr (Qt.refl wr)).ext (ext_drew _)
            have B3 : Aside (KB B w (((wr.setCell ⟨B, a, none⟩ (.int .u32 (x : Nat))).setCell ⟨B, a, none⟩ (.int .u32 (x : Nat))).drew)) := ((BW2.out.setCell _).setCell _).trans (KB.of_ext (ext_drew _))
            clear SW BW2
            generalize ((wr.setCell ⟨B, a, none⟩ (.int .u32 (x : Nat))).setCell ⟨B, a, none⟩ (.int .u32 (x : Nat))).drew = W2 at *
            have C := SI.out W2 0 0 s2 U2 SZ.out (by omega) (by omega)
            clear U2 SZ
            generalize siftDown lt 0 a 0 s2 = s3 at *
            go_wp2_with (go_at_call 44; refine C.mono ?_; rintro e w3 ⟨rfl, u4, u5, k4⟩)
            go_roundg 0
            case measure => omega
            case rel => exact ⟨0, -1, rfl, by go_num, by omega, by omega, B3.out.trans k4.out, s3, u4.out, u5.out, U3.out⟩
          · have e1 := u1.cell (i := a) (by omega)
            have e2 := u1.cell (i := a + k) (by omega)
            have f1 := u1.fr a
            have f2 := u1.fr (a + k)
            have b1 : (a : Int) < (n : Int) := by omega
            have b2 : (a : Int) + (k : Int) < (n : Int) := by omega
            have SW : Hid (∀ W, Qt wr W → UA ((W.setCell ⟨B, a, none⟩ (.int .u32 (s[a + k]! : Nat))).setCell ⟨B, a + k, none⟩ (.int .u32 (s[a]! : Nat))) B (swp s a (a + k)) r) := fun W hq => (u1.ext hq.ext).swp (by omega) (by omega)
            have SZ : Hid ((swp s a (a + k)).size = n) := by show _ = _; rw [size_swp]; exact u2
            have U3 : Hid (heapPop lt a k (siftDown lt k a 0 (swp s a (a + k))) = T) := u3
            clear u1 u2 u3 hi
            generalize swp s a (a + k) = s2 at *
            generalize s[a + k]! = y at *
            generalize s[a]! = x at *
            go_wp2
            go_region
            have U2 : UA (((wr.setCell ⟨B, a, none⟩ (.int .u32 (y : Nat))).setCell ⟨B, a + k, none⟩ (.int .u32 (x : Nat))).drew) B s2 r := (SW.out wr (Qt.refl wr)).ext (ext_drew _)
            have B3 : Aside (KB B w (((wr.setCell ⟨B, a, none⟩ (.int .u32 (y : Nat))).setCell ⟨B, a + k, none⟩ (.int .u32 (x : Nat))).drew)) := ((BW2.out.setCell _).setCell _).trans (KB.of_ext (ext_drew _))
            clear SW BW2
            generalize ((wr.setCell ⟨B, a, none⟩ (.int .u32 (y : Nat))).setCell ⟨B, a + k, none⟩ (.int .u32 (x : Nat))).drew = W2 at *
            have C := SI.out W2 0 k s2 U2 SZ.out (by omega) (by omega)
            clear U2 SZ
            generalize siftDown lt k a 0 s2 = s3 at *
            go_wp2_with (go_at_call 44; refine C.mono ?_; rintro e w3 ⟨rfl, u4, u5, k4⟩)
            go_roundg k
            case measure => omega
            case rel => exact ⟨k, (k : Int) - 1, rfl, by go_num, by omega, by omega, B3.out.trans k4.out, s3, u4.out, u5.out, U3.out⟩
    | succ k =>
      obtain rfl : i = (k : Int) := by omega
      obtain ⟨s, u1, u2, u3⟩ := A.out
      clear A
      rw [heapBuild_succ] at u3
      have C := SI.out wr k h s u1 u2 (by omega) (by omega)
      have U3 : Hid (heapPop lt a h (heapBuild lt h a k (siftDown lt h a k s)) = T) := u3
      clear u1 u2 u3 hi
      generalize siftDown lt h a k s = s3 at *
      go_wp2_with (go_at_call 44; refine C.mono ?_; rintro e w3 ⟨rfl, u4, u5, k4⟩)
      go_roundg k
      case measure => omega
      case rel => exact ⟨k, (k : Int) - 1, rfl, by go_num, by omega, by omega, BW.out.trans k4.out, s3, u4.out, u5.out, U3.out⟩

end Go.Proofs.YtdfjjjcaibadoabDoor
