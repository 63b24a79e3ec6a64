/-
  slices.siftDownOrdered of words.
-/
import Derived.Test.YtdfjjjcaibadoabDoorSi
namespace Go.Proofs.YtdfjjjcaibadoabDoor
open Go.RowKit Go.Sort

/-- What becomes of the root when the child c is the greater one. -/
noncomputable def siftTo (hi F root c : Nat) (d : Array Nat) : Array Nat := if !lt d[F + root]! d[F + c]! then d else siftDown lt hi F c (swp d (F + root) (F + c))
theorem sift_no {hi F root c : Nat} {d : Array Nat} (h : lt d[F + root]! d[F + c]! = false) : siftTo hi F root c d = d := by
  unfold siftTo; rw [h]; rfl
theorem sift_yes {hi F root c : Nat} {d : Array Nat} (_ : c < hi) (h : lt d[F + root]! d[F + c]! = true) : siftTo hi F root c d = siftDown lt hi F c (swp d (F + root) (F + c)) := by
  unfold siftTo; rw [h]; rfl
theorem sift_end {hi F root : Nat} {d : Array Nat} (h : hi ≤ 2 * root + 1) : siftDown lt hi F root d = d := by
  rw [siftDown, dif_pos h]
theorem sift_left {hi F root : Nat} {d : Array Nat} (h : 2 * root + 1 < hi) (h2 : ¬ (2 * root + 1 + 1 < hi ∧ lt d[F + (2 * root + 1)]! d[F + (2 * root + 1) + 1]! = true)) : siftDown lt hi F root d = siftTo hi F root (2 * root + 1) d := by
  rw [siftDown, dif_neg (by omega), if_neg (by simpa using h2)]
  rfl
theorem sift_right {hi F root : Nat} {d : Array Nat} (h : 2 * root + 1 + 1 < hi) (h2 : lt d[F + (2 * root + 1)]! d[F + (2 * root + 1) + 1]! = true) : siftDown lt hi F root d = siftTo hi F root (2 * root + 1 + 1) d := by
  rw [siftDown, dif_neg (by omega), if_pos (by simp [h2, h]), dif_pos (by omega)]
  rfl

set_option maxHeartbeats 4000000 in
theorem sift_any (B c n lo hi F : Nat) (d : Array Nat) (r : List Value) (w : World) (hr : UA w B d r) (hn : d.size = n) (hn2 : n ≤ 1000) (hb : F + hi ≤ n) (hlo : lo ≤ 1000) :
    Calls Tryd.prog 44 #[.slice (some ⟨B, 0, none⟩) n c, .int .i64 lo, .int .i64 hi, .int .i64 F] w
      fun e w' => e = .returned (.tuple #[]) ∧ Hid (UA w' B (siftDown lt hi F lo d) r) ∧ Hid ((siftDown lt hi F lo d).size = n) ∧ Hid (KB B w w') := by
  have st : Hid (∃ s : Array Nat, UA w B s r ∧ s.size = n ∧ siftDown lt hi F lo s = siftDown lt hi F lo d) := ⟨d, hr, hn, rfl⟩
  generalize siftDown lt hi F lo d = T at *
  clear hr hn
  have LS : Hid (∀ W x y, Calls Tryd.prog 40 #[.int .u32 (x : Nat), .int .u32 (y : Nat)] W fun e w' => e = .returned (.bool (lt x y)) ∧ ∃ m, w' = W.drewN m) := fun W x y => less_any x y W
  go_enter Tryd.func44, Tryd.ntmps44
  go_wp2
  go_loopg [8, 9] (hi - lo) (fun gg s8 _ wr => ∃ root : Nat, root ≤ 1000 ∧ hi - root ≤ gg ∧ s8 = .int .i64 root ∧ Aside (KB B w wr) ∧ Aside (∃ s, UA wr B s r ∧ s.size = n ∧ siftDown lt hi F root s = T))
  case atStart => exact ⟨lo, by omega, by omega, rfl, KB.refl _ _, st.out⟩
  case round =>
    obtain ⟨root, hroot, hgg, rfl, BW, A⟩ := hrel
    clear st
    obtain ⟨s, u1, u2, u3⟩ := A.out
    clear A
    by_cases hend : hi ≤ 2 * root + 1
    · have fin : Hid (UA wr B T r ∧ T.size = n) := by
        rw [sift_end hend] at u3
        rw [← u3]; exact ⟨u1, u2⟩
      have hz : 2 * (root : Int) + 1 ≥ (hi : Int) := by omega
      clear u1 u2 u3 LS
      go_wp2
      go_end0
      exact ⟨rfl, fin.out.1, fin.out.2, BW.out⟩
    · obtain ⟨k, hk⟩ : ∃ k, 2 * root + 1 = k := ⟨_, rfl⟩
      have hkz : 2 * (root : Int) + 1 = (k : Int) := by omega
      have hz : ¬ (k : Int) ≥ (hi : Int) := by omega
      by_cases h2 : k + 1 < hi
      · have h2z : (k : Int) + 1 < (hi : Int) := by omega
        have e1 := u1.cell (i := F + k) (by omega)
        have e2 := u1.cell (i := F + k + 1) (by omega)
        have b1 : (F : Int) + (k : Int) < (n : Int) := by omega
        have b2 : (F : Int) + (k : Int) + 1 < (n : Int) := by omega
        have hc1 : Hid (∀ q, Calls Tryd.prog 40 #[.int .u32 (s[F + k]! : Nat), .int .u32 (s[F + k + 1]! : Nat)] (wr.drewN q) fun e w' => e = .returned (.bool (lt s[F + k]! s[F + k + 1]!)) ∧ ∃ m, w' = (wr.drewN q).drewN m) := fun q => LS.out _ _ _
        cases hl1 : lt s[F + k]! s[F + k + 1]!
        · have LL : siftDown lt hi F root s = siftTo hi F root k s := by
            rw [← hk]
            exact sift_left (by omega) (by rw [hk]; intro h'; rw [h'.2] at hl1; cases hl1)
          rw [hl1] at hc1
          clear hl1
          generalize s[F + k + 1]! = y2 at *
          generalize s[F + k]! = y1 at *
          have UU : Hid (UA wr B s r) := u1
          have U3 : Hid (siftDown lt hi F root s = T) := u3
          clear u1 u3
          go_wp2
          go_quiet ((go_at_call 40; exact Calls.quiet_of (hc1.out _)))
          go_wp2
          have B2 : Aside (KB B w (wr.drewN nq)) := BW.out.trans (KB.of_ext (Qt.ext ⟨_, rfl⟩))
          have u1 : UA (wr.drewN nq) B s r := UU.out.ext (Qt.ext ⟨_, rfl⟩)
          clear UU BW hc1 e1 e2
          generalize wr.drewN nq = W2 at *
          have e0 := u1.cell (i := F + root) (by omega)
          have e3 := u1.cell (i := F + k) (by omega)
          have f0 := u1.fr (F + root)
          have f3 := u1.fr (F + k)
          have b0 : (F : Int) + (root : Int) < (n : Int) := by omega
          have b3 : (F : Int) + (k : Int) < (n : Int) := by omega
          have SW : Hid (∀ W, Qt W2 W → UA ((W.setCell ⟨B, F + root, none⟩ (.int .u32 (s[F + k]! : Nat))).setCell ⟨B, F + k, none⟩ (.int .u32 (s[F + root]! : Nat))) B (swp s (F + root) (F + k)) r) := fun W hq => (u1.ext hq.ext).swp (by omega) (by omega)
          have SZ : Hid ((swp s (F + root) (F + k)).size = n) := by show _ = _; rw [size_swp]; exact u2
          have NO : Hid (lt s[F + root]! s[F + k]! = false → UA W2 B T r ∧ T.size = n) := fun h => by
            have u3 := U3.out
            rw [LL, sift_no h] at u3
            rw [← u3]; exact ⟨u1, u2⟩
          have YES : Hid (lt s[F + root]! s[F + k]! = true → siftDown lt hi F k (swp s (F + root) (F + k)) = T) := fun h => by
            have u3 := U3.out
            rw [LL, sift_yes (by omega) h] at u3
            exact u3
          have hc2 : Hid (∀ q, Calls Tryd.prog 40 #[.int .u32 (s[F + root]! : Nat), .int .u32 (s[F + k]! : Nat)] (W2.drewN q) fun e w' => e = .returned (.bool (lt s[F + root]! s[F + k]!)) ∧ ∃ m, w' = (W2.drewN q).drewN m) := fun q => LS.out _ _ _
          clear u1 u2 U3 LL
          generalize swp s (F + root) (F + k) = s2 at *
          generalize s[F + k]! = y at *
          generalize s[F + root]! = x at *
          cases hl : lt x y
          · have fin := NO.out hl
            have fin' : Hid (UA W2 B T r ∧ T.size = n) := fin
            rw [hl] at hc2
            clear YES NO SW SZ f0 f3 hl fin
            go_wp2
            go_quiet ((go_at_call 40; exact Calls.quiet_of (hc2.out _)))
            go_wp2
            refine bodyPost_ret (results_none rfl _ _ _) rfl ?_
            exact ⟨rfl, fin'.out.1.ext (Qt.ext ⟨_, rfl⟩), fin'.out.2, B2.out.trans (KB.of_ext (Qt.ext ⟨_, rfl⟩))⟩
          · have nx : Hid (siftDown lt hi F k s2 = T) := YES.out hl
            rw [hl] at hc2
            clear YES NO hl
            go_wp2
            go_quiet ((go_at_call 40; exact Calls.quiet_of (hc2.out _)))
            go_wp2
            go_region
            go_wp2
            go_roundg (hi - k)
            case measure => omega
            case rel => exact ⟨k, by omega, by omega, by go_num, ((B2.out.trans (KB.of_ext (Qt.ext ⟨_, rfl⟩))).setCell _).setCell _, s2, SW.out _ ⟨_, rfl⟩, SZ.out, nx.out⟩

        · have LL : siftDown lt hi F root s = siftTo hi F root (k + 1) s := by
            rw [← hk]
            exact sift_right (by omega) (by rw [hk]; exact hl1)
          rw [hl1] at hc1
          clear hl1
          generalize s[F + k + 1]! = y2 at *
          generalize s[F + k]! = y1 at *
          have UU : Hid (UA wr B s r) := u1
          have U3 : Hid (siftDown lt hi F root s = T) := u3
          clear u1 u3
          go_wp2
          go_quiet ((go_at_call 40; exact Calls.quiet_of (hc1.out _)))
          go_wp2
          have B2 : Aside (KB B w (wr.drewN nq)) := BW.out.trans (KB.of_ext (Qt.ext ⟨_, rfl⟩))
          have u1 : UA (wr.drewN nq) B s r := UU.out.ext (Qt.ext ⟨_, rfl⟩)
          clear UU BW hc1 e1 e2
          generalize wr.drewN nq = W2 at *
          have e0 := u1.cell (i := F + root) (by omega)
          have e3 := u1.cell (i := F + (k + 1)) (by omega)
          have f0 := u1.fr (F + root)
          have f3 := u1.fr (F + (k + 1))
          have b0 : (F : Int) + (root : Int) < (n : Int) := by omega
          have b3 : (F : Int) + ((k : Int) + 1) < (n : Int) := by omega
          have SW : Hid (∀ W, Qt W2 W → UA ((W.setCell ⟨B, F + root, none⟩ (.int .u32 (s[F + (k + 1)]! : Nat))).setCell ⟨B, F + (k + 1), none⟩ (.int .u32 (s[F + root]! : Nat))) B (swp s (F + root) (F + (k + 1))) r) := fun W hq => (u1.ext hq.ext).swp (by omega) (by omega)
          have SZ : Hid ((swp s (F + root) (F + (k + 1))).size = n) := by show _ = _; rw [size_swp]; exact u2
          have NO : Hid (lt s[F + root]! s[F + (k + 1)]! = false → UA W2 B T r ∧ T.size = n) := fun h => by
            have u3 := U3.out
            rw [LL, sift_no h] at u3
            rw [← u3]; exact ⟨u1, u2⟩
          have YES : Hid (lt s[F + root]! s[F + (k + 1)]! = true → siftDown lt hi F (k + 1) (swp s (F + root) (F + (k + 1))) = T) := fun h => by
            have u3 := U3.out
            rw [LL, sift_yes (by omega) h] at u3
            exact u3
          have hc2 : Hid (∀ q, Calls Tryd.prog 40 #[.int .u32 (s[F + root]! : Nat), .int .u32 (s[F + (k + 1)]! : Nat)] (W2.drewN q) fun e w' => e = .returned (.bool (lt s[F + root]! s[F + (k + 1)]!)) ∧ ∃ m, w' = (W2.drewN q).drewN m) := fun q => LS.out _ _ _
          clear u1 u2 U3 LL
          generalize swp s (F + root) (F + (k + 1)) = s2 at *
          generalize s[F + (k + 1)]! = y at *
          generalize s[F + root]! = x at *
          cases hl : lt x y
          · have fin := NO.out hl
            have fin' : Hid (UA W2 B T r ∧ T.size = n) := fin
            rw [hl] at hc2
            clear YES NO SW SZ f0 f3 hl fin
            go_wp2
            go_quiet ((go_at_call 40; exact Calls.quiet_of (hc2.out _)))
            go_wp2
            refine bodyPost_ret (results_none rfl _ _ _) rfl ?_
            exact ⟨rfl, fin'.out.1.ext (Qt.ext ⟨_, rfl⟩), fin'.out.2, B2.out.trans (KB.of_ext (Qt.ext ⟨_, rfl⟩))⟩
          · have nx : Hid (siftDown lt hi F (k + 1) s2 = T) := YES.out hl
            rw [hl] at hc2
            clear YES NO hl
            go_wp2
            go_quiet ((go_at_call 40; exact Calls.quiet_of (hc2.out _)))
            go_wp2
            go_region
            go_wp2
            go_roundg (hi - (k + 1))
            case measure => omega
            case rel => exact ⟨(k + 1), by omega, by omega, by go_num, ((B2.out.trans (KB.of_ext (Qt.ext ⟨_, rfl⟩))).setCell _).setCell _, s2, SW.out _ ⟨_, rfl⟩, SZ.out, nx.out⟩

      · have h2z : ¬ (k : Int) + 1 < (hi : Int) := by omega
        have LL : siftDown lt hi F root s = siftTo hi F root k s := by
          rw [← hk]
          exact sift_left (by omega) (by rw [hk]; intro h'; exact h2 h'.1)
        have LL2 : True := trivial
        have hkb : (k : Int) ≤ 1000 := by omega
        have UU : Hid (UA wr B s r) := u1
        have U3 : Hid (siftDown lt hi F root s = T) := u3
        clear u1 u3
        go_wp2
        have b9 : (k : Int) + 1 < 2000 := by omega
        have h9 : ¬ ((k : Int) + 1 < (hi : Int)) := by omega
        clear h2z
        go_quiet (fail)
        go_wp2
        have B2 : Aside (KB B w (wr.drewN nq)) := BW.out.trans (KB.of_ext (Qt.ext ⟨_, rfl⟩))
        have u1 : UA (wr.drewN nq) B s r := UU.out.ext (Qt.ext ⟨_, rfl⟩)
        clear UU BW LL2
        generalize wr.drewN nq = W2 at *
        have e0 := u1.cell (i := F + root) (by omega)
        have e3 := u1.cell (i := F + k) (by omega)
        have f0 := u1.fr (F + root)
        have f3 := u1.fr (F + k)
        have b0 : (F : Int) + (root : Int) < (n : Int) := by omega
        have b3 : (F : Int) + (k : Int) < (n : Int) := by omega
        have SW : Hid (∀ W, Qt W2 W → UA ((W.setCell ⟨B, F + root, none⟩ (.int .u32 (s[F + k]! : Nat))).setCell ⟨B, F + k, none⟩ (.int .u32 (s[F + root]! : Nat))) B (swp s (F + root) (F + k)) r) := fun W hq => (u1.ext hq.ext).swp (by omega) (by omega)
        have SZ : Hid ((swp s (F + root) (F + k)).size = n) := by show _ = _; rw [size_swp]; exact u2
        have NO : Hid (lt s[F + root]! s[F + k]! = false → UA W2 B T r ∧ T.size = n) := fun h => by
          have u3 := U3.out
          rw [LL, sift_no h] at u3
          rw [← u3]; exact ⟨u1, u2⟩
        have YES : Hid (lt s[F + root]! s[F + k]! = true → siftDown lt hi F k (swp s (F + root) (F + k)) = T) := fun h => by
          have u3 := U3.out
          rw [LL, sift_yes (by omega) h] at u3
          exact u3
        have hc2 : Hid (∀ q, Calls Tryd.prog 40 #[.int .u32 (s[F + root]! : Nat), .int .u32 (s[F + k]! : Nat)] (W2.drewN q) fun e w' => e = .returned (.bool (lt s[F + root]! s[F + k]!)) ∧ ∃ m, w' = (W2.drewN q).drewN m) := fun q => LS.out _ _ _
        clear u1 u2 U3 LL
        generalize swp s (F + root) (F + k) = s2 at *
        generalize s[F + k]! = y at *
        generalize s[F + root]! = x at *
        cases hl : lt x y
        · have fin := NO.out hl
          have fin' : Hid (UA W2 B T r ∧ T.size = n) := fin
          rw [hl] at hc2
          clear YES NO SW SZ f0 f3 hl fin
          go_wp2
          go_quiet ((go_at_call 40; exact Calls.quiet_of (hc2.out _)))
          go_wp2
          refine bodyPost_ret (results_none rfl _ _ _) rfl ?_
          exact ⟨rfl, fin'.out.1.ext (Qt.ext ⟨_, rfl⟩), fin'.out.2, B2.out.trans (KB.of_ext (Qt.ext ⟨_, rfl⟩))⟩
        · have nx : Hid (siftDown lt hi F k s2 = T) := YES.out hl
          rw [hl] at hc2
          clear YES NO hl
          go_wp2
          go_quiet ((go_at_call 40; exact Calls.quiet_of (hc2.out _)))
          go_wp2
          go_region
          go_wp2
          go_roundg (hi - k)
          case measure => omega
          case rel => exact ⟨k, by omega, by omega, by go_num, ((B2.out.trans (KB.of_ext (Qt.ext ⟨_, rfl⟩))).setCell _).setCell _, s2, SW.out _ ⟨_, rfl⟩, SZ.out, nx.out⟩

end Go.Proofs.YtdfjjjcaibadoabDoor
