/-
  An append writes the list's own block, or lays a new one and leaves all as it was.
-/
import Derived.Test.YtkccdhidmihekaaLst
namespace Go.Proofs.Ytkccdhidmihekaa
open Go.RowKit

theorem append_block {t e : TypeId} {i0 : TypeInfo} {z : Value} {by8 : Nat} (ht : Try.prog.underlying t = some (.slice e)) (hi : Try.prog.info? e = some i0) (hz0 : i0.zero = some z) (hz1 : i0.size = 1) (hz2 : i0.bytes = by8) (hb : by8 ≤ 24)
    {w w' : World} {base : Nat} {v v' : Value} {n : Nat} {xs : List Value} {ty : TypeId} {ad : Addr} {m c : Nat} {ys : List Value} (hown : w.ownsRow base e 1 v n xs) (hl : ys.length = m) (hm : 0 < m)
    (hnews : ∀ j u, ys[j]? = some u → w.cell? (ad.add j) = some u) (hone : ∀ u ∈ ys, u.oneCell' = true) (h63 : n + m ≤ 1000000000) (hr : (Builtin.append_ #[t, t] ty #[v, .slice (some ad) m c]).run Try.prog w = .ok v' w') :
    v'.ownBlock = v.ownBlock ∨ ((∃ k, v'.ownBlock = some k ∧ w.heap.size ≤ k) ∧ Ext w w') := by
  have hbb : (n + m) * by8 ≤ 24000000000 := by
    have := Nat.mul_le_mul h63 hb
    omega
  have hbm : m * by8 ≤ 24000000000 := by
    have := Nat.mul_le_mul (show m ≤ 1000000000 by omega) hb
    omega
  rcases hown.2 with ⟨rfl, rfl⟩ | ⟨g, cap, cur, rfl, hbg, hg, hnc, hcm, hcs, htake⟩
  · have hr2 := run_append_nil (P := Try.prog) w t ty e i0 _ ht hi hz0 ad m c ys (by rw [hz1]; omega) hnews hm (by omega) (by rw [hz2]; omega)
    rw [hr2] at hr
    injection hr with e1 e2
    subst e1 e2
    exact .inr ⟨⟨_, rfl, Nat.le_refl _⟩, (ext_drew w).alloc _⟩
  · by_cases hroom : n + m ≤ cap
    · have hr2 := run_append_room (P := Try.prog) w t ty e i0 ht hi g n cap cur hg ad m c ys (by rw [hz1]; omega) hnews hone hroom (by rw [hz1, hl]; omega)
      rw [hr2] at hr
      injection hr with e1 e2
      subst e1
      exact .inl rfl
    · have holds : ∀ j u, xs[j]? = some u → w.cell? ((⟨g, 0, none⟩ : Addr).add j) = some u := hown.cells (g := g) rfl
      have hr2 := run_append_grow (P := Try.prog) w t ty e i0 _ ht hi hz0 ⟨g, 0, none⟩ n cap xs (by rw [hz1]; exact hown.1) holds ad m c ys (by rw [hz1]; omega) hnews (by omega) (by omega) (growslice_fits (by omega) (by rw [hz2]; omega))
      rw [hr2] at hr
      injection hr with e1 e2
      subst e1 e2
      exact .inr ⟨⟨_, rfl, Nat.le_refl _⟩, (ext_drew w).alloc _⟩

end Go.Proofs.Ytkccdhidmihekaa
