/-
  quipuref.Costs.
-/
import Derived.Test.YtakggfogoobdnaaCst
import Derived.BigQuiet
namespace Go.Proofs.Ytakggfogoobdnaa
open Go.RowKit

set_option maxHeartbeats 2000000 in
theorem costs_any (x y : Nm) (w : World) (l : List Nat) (hx : Nums w x) (hok : werl x.z = 0) (hy : Nums w y) (hyl : y.z = lz l) (hle : ∀ i, l.getD i 0 ≤ 8) (hlen : l.length = x.z.length) :
    Calls Try.prog 19 #[x.v, y.v] w fun e w' => e = .returned (.int .i64 (cs (wof x.z) l x.z.length : Nat)) ∧ Qt w w' := by
  have h8 := (werl_nat hok).1
  have hW := wof_le hok
  have hWz := wof_z hok
  obtain ⟨a, c, z⟩ := x
  obtain ⟨ya, yc, yz⟩ := y
  simp only [Nm.v] at *
  subst hyl
  obtain ⟨n, hn⟩ : ∃ n, z.length = n := ⟨_, rfl⟩
  have hll : (lz l).length = n := by simp [lz, hlen, hn]
  have HN : Hid (z.length = n) := hn
  have HW : Hid (∀ i, wof z i ≤ 1048576) := hW
  have HWZ : Hid (∀ i, z.getD i 0 = (wof z i : Int)) := hWz
  have HLE : Hid (∀ i, l.getD i 0 ≤ 8) := hle
  obtain ⟨p1, p2, _, pb, po, p4, p5⟩ := hy
  obtain ⟨q1, q2, _, qb, qo, q4, q5⟩ := hx
  simp only at p1 p2 p4 p5 q1 q2 q4 q5
  rw [hll] at p1 p4 p5 ⊢
  rw [hn] at q1 q4 q5 h8 ⊢
  have P5 : Hid (∀ i, i < n → w.cell? ⟨pb, po + i, none⟩ = some (.int .i64 ((lz l).getD i 0))) := p5
  have Q5 : Hid (∀ i, i < n → w.cell? ⟨qb, qo + i, none⟩ = some (.int .i64 (z.getD i 0))) := q5
  unfold maxLen at p2 q2
  clear hok hn hll hW hWz hle hlen p5 q5
  go_enter Try.func19, Try.ntmps19
  go_wp2
  go_loopg [5, 6] n (fun gg s5 s6 wr => ∃ k c' : Nat, k ≤ n ∧ n - k ≤ gg ∧ s6 = .int .i64 k ∧ s5 = .int .i64 c' ∧ Aside (c' = cs (wof z) l k) ∧ Aside (Qt w wr))
  case atStart => exact ⟨0, 0, by omega, by omega, rfl, rfl, rfl, Qt.refl w⟩
  case round =>
    obtain ⟨k, c', hk, hgg, rfl, rfl, A, QW⟩ := hrel
    by_cases hlt : k < n
    · have hltz : (k : Int) < (n : Int) := by omega
      obtain rfl := p4 (by omega)
      obtain rfl := q4 (by omega)
      have e1 := QW.out.cell (P5.out k hlt)
      have e2 := QW.out.cell (Q5.out k hlt)
      rw [lz_z] at e1
      rw [HWZ.out k] at e2
      have hcb : c' ≤ 67108864 := by
        rw [A.out]
        have := cs_le (wof z) l HW.out HLE.out k
        omega
      have hs := cs_succ (wof z) l k
      rw [← A.out] at hs
      have hpb : wof z k * l.getD k 0 ≤ 1048576 * 8 := Nat.mul_le_mul (HW.out k) (HLE.out k)
      have hm : (wof z k : Int) * ((l.getD k 0 : Nat) : Int) = ((wof z k * l.getD k 0 : Nat) : Int) := by rw [Int.natCast_mul]
      generalize wof z k * l.getD k 0 = p at hs hpb hm
      generalize l.getD k 0 = d at e1 hm
      generalize wof z k = u at e2 hm
      have HS : Hid (c' + p = cs (wof z) l (k + 1)) := hs.symm
      clear A hs
      go_wp2
      go_quiet (fail)
      go_wp2
      go_roundg (n - (k + 1))
      case measure => omega
      case rel => exact ⟨k + 1, c' + p, by omega, by omega, by go_num, by go_num, HS.out, QW.out.trans ⟨_, rfl⟩⟩
    · have hkn : k = n := by omega
      subst hkn
      go_wp2
      go_ret
      refine ⟨?_, QW.out⟩
      rw [← A.out]
      rfl

end Go.Proofs.Ytakggfogoobdnaa
