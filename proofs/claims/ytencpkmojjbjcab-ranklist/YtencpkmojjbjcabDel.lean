/-
  slices.Delete of one number.
-/
import Derived.Test.YtencpkmojjbjcabKb
import Derived.Test.YtencpkmojjbjcabPrm
import Derived.Deep.RegionLaw
import Derived.Lib.SliceRun
namespace Go.Proofs.Ytencpkmojjbjcab
open Go.RowKit

/-- Cells laid one behind the other into a list of cells. -/
def lay : List Value → Nat → List Value → List Value
  | l, _, [] => l
  | l, o, v :: r => lay (l.set o v) (o + 1) r

theorem Row.lays {B : Nat} {t : TypeId} : ∀ (vs : List Value) (o : Nat) (w : World) (l : List Value), Row w B t l → Row (w.setCells B o vs) B t (lay l o vs)
  | [], _, _, _, h => h
  | v :: r, o, _, _, h => Row.lays r (o + 1) _ _ (h.set o v)
theorem kb_lays {B : Nat} : ∀ (vs : List Value) (o : Nat) (w w' : World), KB B w w' → KB B w (w'.setCells B o vs)
  | [], _, _, _, h => h
  | v :: r, o, w, _, h => kb_lays r (o + 1) w _ (h.setCell v)

theorem lay_eq : ∀ (vs l : List Value) (o : Nat), o + vs.length ≤ l.length → lay l o vs = l.take o ++ vs ++ l.drop (o + vs.length)
  | [], l, o, _ => by
    show l = _
    simp
  | v :: r, l, o, h => by
    have hl : o + r.length + 1 ≤ l.length := by simpa [Nat.add_assoc] using h
    show lay (l.set o v) (o + 1) r = _
    rw [lay_eq r _ _ (by simp; omega)]
    have e1 : (l.set o v).take (o + 1) = l.take o ++ [v] := by
      rw [List.take_succ_eq_append_getElem (by simp; omega), List.take_set, List.set_eq_of_length_le (by simp; omega)]
      simp
    have e2 : (l.set o v).drop (o + 1 + r.length) = l.drop (o + 1 + r.length) := by
      rw [List.drop_set, if_pos (by omega)]
    rw [e1, e2, List.length_cons, show o + 1 + r.length = o + (r.length + 1) by omega]
    simp

theorem del_cells (z : List Int) (rest : List Value) (i n : Nat) (hz : z.length = n) (hi : i < n) :
    lay (lay (iv z ++ rest) i (iv (z.drop (i + 1)))) (n - 1) [.int .i64 0] = iv (z.eraseIdx i) ++ .int .i64 0 :: rest := by
  have hd : (iv (z.drop (i + 1))).length = n - (i + 1) := by simp; omega
  rw [lay_eq (iv (z.drop (i + 1))) (iv z ++ rest) i (by simp; omega), hd, show i + (n - (i + 1)) = n - 1 by omega]
  have e1 : (iv z ++ rest).take i = iv (z.take i) := by
    rw [List.take_append_of_le_length (by simp; omega)]
    unfold iv; rw [List.map_take]
  have e2 : (iv z ++ rest).drop (n - 1) = .int .i64 (z.getD (n - 1) 0) :: rest := by
    rw [List.drop_append_of_le_length (by simp; omega), List.drop_eq_getElem_cons (by simp; omega), List.drop_eq_nil_of_le (by simp; omega)]
    simp [List.getD_eq_getElem?_getD, (show n - 1 < z.length by omega)]
  rw [e1, e2]
  have hl : (iv (z.take i) ++ iv (z.drop (i + 1))).length = n - 1 := by simp; omega
  show ((iv (z.take i) ++ iv (z.drop (i + 1))) ++ Value.int .i64 (z.getD (n - 1) 0) :: rest).set (n - 1) (.int .i64 0) = _
  rw [List.set_append, if_neg (by omega), hl, Nat.sub_self, List.set_cons_zero, List.eraseIdx_eq_take_drop_succ]
  unfold iv
  rw [List.map_append]

set_option maxHeartbeats 4000000 in
set_option maxRecDepth 1000000 in
theorem delete_any (g cap n i : Nat) (z : List Int) (rest : List Value) (w : World) (hr : Row w g 3 (iv z ++ rest)) (hz : z.length = n) (hl : n + rest.length = cap) (hi : i < n) (hc : cap ≤ 8) :
    Calls Try.prog 18 #[.slice (some ⟨g, 0, none⟩) n cap, .int .i64 i, .int .i64 ((i : Int) + 1)] w fun e w' => e = .returned (.slice (some ⟨g, 0, none⟩) (n - 1) cap) ∧ Row w' g 3 (iv (z.eraseIdx i) ++ .int .i64 0 :: rest) ∧ KB g w w' := by
  obtain ⟨i0, hi0, hz0, hz1, hz2⟩ := info_parts info3
  have hcell : ∀ j, j < n → w.cell? ⟨g, j, none⟩ = some (.int .i64 (z.getD j 0)) := fun j hj => by
    rw [hr.cell j (by simp; omega), List.getElem_append_left (by simp; omega)]
    simp [List.getD_eq_getElem?_getD, (show j < z.length by omega)]
  obtain ⟨news, hnews⟩ : ∃ news, news = iv (z.drop (i + 1)) := ⟨_, rfl⟩
  have hlen : news.length = n - (i + 1) := by rw [hnews]; simp; omega
  have hget : ∀ t, t < n - (i + 1) → news[t]? = some (.int .i64 (z.getD (i + 1 + t) 0)) := by
    intro t ht
    rw [hnews, List.getElem?_map, List.getElem?_drop, List.getElem?_eq_getElem (by omega)]
    simp [List.getD_eq_getElem?_getD, (show i + 1 + t < z.length by omega)]
  obtain ⟨A, hA, hsrc⟩ : ∃ A : Addr, (if cap = i + 1 then some (⟨g, 0, none⟩ : Addr) else some ⟨g, i + 1, none⟩) = some A ∧ Hid (∀ t u, news[t]? = some u → w.drew.cell? (A.add t) = some u) := by
    by_cases h : cap = i + 1
    · refine ⟨⟨g, 0, none⟩, by simp [h], fun t u hu => ?_⟩
      have h0 : news.length = 0 := by rw [hlen]; omega
      rw [List.length_eq_zero_iff.1 h0] at hu
      simp at hu
    · refine ⟨⟨g, i + 1, none⟩, by simp [h], fun t u hu => ?_⟩
      have ht : t < n - (i + 1) := by
        have := (List.getElem?_eq_some_iff.1 hu).1
        rwa [hlen] at this
      rw [hget t ht] at hu
      rw [Addr.add_lit]
      exact (hcell (i + 1 + t) (by omega)).trans hu
  have s1 : Hid (news.length = (n - (i + 1)) * 1) := by rw [Nat.mul_one]; exact hlen
  have s2 : Hid (∀ u ∈ news, u.oneCell' = true) := by
    intro u hu
    rw [hnews] at hu
    obtain ⟨q, _, rfl⟩ := List.mem_map.1 hu
    rfl
  have s3 : Hid (∀ t, t < news.length → (w.drew.cell? ⟨g, 0 + i * 1 + t, none⟩).isSome = true ∧ w.drew.frozen? ⟨g, 0 + i * 1 + t, none⟩ = false) := by
    intro t ht
    rw [hlen] at ht
    rw [Nat.mul_one, Nat.zero_add]
    exact ⟨by show (w.cell? _).isSome = true; rw [hcell (i + t) (by omega)]; rfl, hr.fr (i + t)⟩
  obtain ⟨W1, hW1⟩ : ∃ W1, W1 = w.drew.setCells g (0 + i * 1) news := ⟨_, rfl⟩
  have R1 : Row W1 g 3 (lay (iv z ++ rest) i news) := by
    rw [hW1, Nat.mul_one, Nat.zero_add]
    exact Row.lays news i _ _ (hr.ext (ext_drew w))
  have K1 : KB g w W1 := by
    rw [hW1]
    exact kb_lays _ _ _ _ (KB.of_ext (ext_drew w))
  have L1 : (lay (iv z ++ rest) i news).length = cap := by
    rw [lay_eq _ _ _ (by rw [hlen]; simp; omega)]
    simp [hlen]; omega
  have RF : Hid (Row (W1.setCells g (n - 1) (List.replicate 1 (.int .i64 0))) g 3 (iv (z.eraseIdx i) ++ .int .i64 0 :: rest)) := by
    have := Row.lays [.int .i64 0] (n - 1) _ _ R1
    rw [hnews, del_cells z rest i n hz hi] at this
    exact this
  have KF : Hid (KB g w (W1.setCells g (n - 1) (List.replicate 1 (.int .i64 0)))) := kb_lays _ _ _ _ K1
  have hcl : ∀ ty, (Builtin.clear_ #[27] ty #[.slice (some ⟨g, i + (n - (i + 1)), none⟩) (n - (i + (n - (i + 1)))) (cap - (i + (n - (i + 1))))]).run Try.prog W1 = .ok (.tuple #[]) (W1.setCells g (n - 1) (List.replicate 1 (.int .i64 0))) := fun ty => by
    rw [show i + (n - (i + 1)) = n - 1 by omega, show n - (n - 1) = 1 by omega]
    exact Lib.run_clear_slice W1 _ _ ty _ Try.underlying27 (fun W => by go_simp) rfl rfl g (n - 1) 1 _ (by omega) (fun t ht => by rw [R1.cell (n - 1 + t) (by rw [L1]; omega)]; rfl) (fun t ht => R1.fr _)
  have hM : Hid (i + (n - (i + 1)) = n - 1) := by show _ = _; omega
  have hW : Hid (W1 = w.drew.setCells g (0 + i * 1) news) := hW1
  have hic : i ≤ cap := by omega
  have hjc : i + 1 ≤ cap := by omega
  clear hW1 R1 K1 L1 hr hget hnews hlen hcell
  have hiz : (i : Int) < (n : Int) := by omega
  have hp1 : (0 : Int) ≤ (i : Int) + 1 := by omega
  have hp2 : (i : Int) + 1 ≤ (n : Int) := by omega
  go_enter Try.func18, Try.ntmps18
  go_wp2_with fail
  go_region_law (refine step_append_room rfl (.tmp 22) (.tmp 25) 27 rfl 3 i0 1 Try.underlying27 hi0 hz1 g 0 i cap (by simp [Act.eval, Act.put]) A (n - (i + 1)) (cap - (i + 1)) news (by simp [Act.eval, Act.put]) s1.out hsrc.out s2.out (by omega) s3.out ?_; rw [← hW.out])
  go_wp2
  go_ret
  exact ⟨by rw [← hM.out]; rfl, RF.out, KF.out⟩
end Go.Proofs.Ytencpkmojjbjcab
