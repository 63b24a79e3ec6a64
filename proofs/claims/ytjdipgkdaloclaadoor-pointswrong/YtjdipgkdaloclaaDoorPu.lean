/-
  points.Put, quipuref.Values.
-/
import Derived.Test.YtjdipgkdaloclaaDoorMd
import Derived.Test.YtjdipgkdaloclaaDoorChk
namespace Go.Proofs.YtjdipgkdaloclaaDoor
open Go.RowKit

/-- What is told of so many places and these numbers. -/
def pue (n : Int) (z : List Int) : Int := if pc z.length n = 0 then fe z else pc z.length n

theorem Put_bad (n : Int) (y : Nm) (X : Int) (hX : pue n y.z = X) (h0 : X ≠ 0) (w : World) (hw : Nums w y) : Calls Tryd.prog 10 #[.int .i64 n, y.v] w fun e w' => e = .returned (.tuple #[.slice none 0 0, .int .i64 X]) ∧ w' = w := by
  have c1 := counts_any y.z.length n w
  have c2 := check_any y w hw
  unfold pue at hX
  simp only [Nm.v] at *
  clear hw
  have hz : (X != 0) = true := bne_iff_ne.2 h0
  clear h0
  by_cases h : pc y.z.length n = 0
  · rw [if_pos h] at hX
    rw [h] at c1
    rw [hX] at c2
    clear hX h
    generalize y.z.length = m at *
    go_enter Tryd.func10, Tryd.ntmps10
    go_wp2_with fail
    refine c1.mono ?_
    rintro e w' ⟨rfl, rfl⟩
    clear c1
    go_wp2_with fail
    refine c2.mono ?_
    rintro e w' ⟨rfl, rfl⟩
    clear c2
    go_wp2
    go_ret2
    exact ⟨rfl, rfl⟩
  · rw [if_neg h] at hX
    rw [hX] at c1
    clear hX h c2
    generalize y.z.length = m at *
    go_enter Tryd.func10, Tryd.ntmps10
    go_wp2_with fail
    refine c1.mono ?_
    rintro e w' ⟨rfl, rfl⟩
    clear c1
    go_wp2
    go_ret2
    exact ⟨rfl, rfl⟩

theorem Put_good (n : Nat) (d : List Nat) (hd : ∀ c ∈ d, c < 16) (h1 : 1 ≤ d.length) (h2 : d.length ≤ n) (h9 : n ≤ 9) (y : Nm) (hy : y.z = zl d) (w : World) (hw : Nums w y) :
    Calls Tryd.prog 10 #[.int .i64 n, y.v] w fun e w' => e = .returned (.tuple #[.slice (some ⟨w.heap.size, 0, none⟩) n n, .int .i64 0]) ∧ Ext w w' ∧ Row w' w.heap.size 3 (nf (ep d) n) := by
  have hlen : y.z.length = d.length := by rw [hy, zl_len]
  have c1 := counts_any y.z.length n w
  rw [pc_good (by omega) (by omega) (by omega)] at c1
  have c2 := check_any y w hw
  rw [fe_good (by
    rw [hy]
    intro x hx
    obtain ⟨c, hc, rfl⟩ := List.mem_map.1 hx
    have := hd c hc
    omega)] at c2
  have c3 := made_any d hd (by omega) n h9 y hy w hw
  simp only [Nm.v] at *
  clear hw hlen hy
  generalize y.z.length = m at *
  generalize ep d = V at *
  go_enter Tryd.func10, Tryd.ntmps10
  go_wp2_with fail
  refine c1.mono ?_
  rintro e w' ⟨rfl, hh⟩
  have hh := hh.symm
  subst hh
  clear c1
  go_wp2_with fail
  refine c2.mono ?_
  rintro e w' ⟨rfl, hh⟩
  have hh := hh.symm
  subst hh
  clear c2
  go_wp2_with fail
  refine c3.mono ?_
  rintro e w' ⟨rfl, E, R⟩
  clear c3
  have H : Hid (Ext w w' ∧ Row w' w.heap.size 3 (nf V n)) := ⟨E, R⟩
  clear E R
  go_wp2
  go_ret2
  exact ⟨rfl, H.out⟩

theorem values_any (d : List Nat) (hd : ∀ c ∈ d, c < 16) (n : Nat) (h9 : n ≤ 9) (y : Nm) (hy : y.z = zl d) (w : World) (hw : Nums w y) :
    Calls Tryd.prog 33 #[.int .i64 n, y.v] w fun e w' => ∃ v, e = .returned v ∧ OwnN w w' v (zl (nl (ep d) n)) := by
  have VA : Hid (∀ (x : Nat) W, x < 9 → Ext w W → Calls Tryd.prog 31 #[y.v, .int .i64 ((x : Int) + 1)] W fun e w' => e = .returned (.int .i64 (ep d x : Nat)) ∧ w' = W) := fun x W hx E => by
    have := value_any d hd (x + 1) (by omega) y hy W (hw.ext E)
    rw [vl_zero (by omega) hd] at this
    exact this
  clear hw hy
  generalize y.v = Y at *
  generalize ep d = V at *
  go_enter Tryd.func33, Tryd.ntmps33
  go_wp2
  go_loopg [5, 6] n (fun gg s5 s6 wr => ∃ k : Nat, k ≤ n ∧ n - k ≤ gg ∧ s6 = .int .i64 ((k : Int) + 1) ∧ Aside (OwnN w wr s5 (zl (nl V k))))
  case atStart => exact ⟨0, by omega, by omega, rfl, OwnN.nil (Ext.refl w)⟩
  case round =>
    obtain ⟨k, hk, hgg, rfl, O⟩ := hrel
    by_cases hlt : k < n
    · have hltz : (k : Int) + 1 ≤ (n : Int) := by omega
      have c1 := VA.out k wr (by omega) O.out.1
      obtain ⟨a, c, hv⟩ := O.out.form
      subst hv
      have lz : (zl (nl V k)).length = k := by simp
      have O2 : Hid (OwnN w wr (.slice a k c) (zl (nl V k))) := by
        have := O.out
        rw [lz] at this
        exact this
      have HS : Hid (zl (nl V k) ++ [((V k : Nat) : Int)] = zl (nl V (k + 1))) := by rw [Hid, nl_snoc]; simp
      rw [lz]
      have LZ : Hid ((zl (nl V k)).length + 1 ≤ 1000000) := by rw [Hid, lz]; omega
      clear lz O
      generalize zl (nl V k) = z at *
      go_wp2_with fail
      refine c1.mono ?_
      rintro e w' ⟨rfl, rfl⟩
      clear c1
      go_wp2_with (at_builtin; refine wpList_appendNum rfl _ _ rfl w _ (.slice a k c) rfl z O2.out _ rfl (by have := LZ.out; omega) ?_; intro v2 w2 O3)
      have O4 : Hid (OwnN w w2 v2 (zl (nl V (k + 1)))) := by rw [← HS.out]; exact O3
      clear O3 O2 HS
      go_wp2
      go_roundg (n - (k + 1))
      case measure => omega
      case rel => exact ⟨k + 1, by omega, by omega, by go_num, O4.out⟩
    · obtain rfl : k = n := by omega
      go_wp2
      go_ret
      exact ⟨_, rfl, O.out⟩

end Go.Proofs.YtjdipgkdaloclaaDoor
