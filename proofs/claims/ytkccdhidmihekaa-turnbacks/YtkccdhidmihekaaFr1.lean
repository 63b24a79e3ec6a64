/-
  turn.allBytes, turn.toFront, bytes.IndexByte.
-/
import Derived.Test.YtkccdhidmihekaaKb
import Derived.Test.YtkccdhidmihekaaMtf
import Derived.Shelf.Abstract
import Derived.Deep.RegionLaw
import Derived.Lib.BytesEntry
namespace Go.Proofs.Ytkccdhidmihekaa
open Go.RowKit

theorem fill_bytes (w : World) (B k : Nat) (hk : k < 256) (h : Row w B 5 (bv (a256.take k ++ List.replicate (256 - k) 0))) : Row (w.setCell ⟨B, k, none⟩ (.int .u8 k)) B 5 (bv (a256.take (k + 1) ++ List.replicate (256 - (k + 1)) 0)) := by
  have := h.set k (.int .u8 k)
  have e : (bv (a256.take k ++ List.replicate (256 - k) 0)).set k (.int .u8 k) = bv (a256.take (k + 1) ++ List.replicate (256 - (k + 1)) 0) := by
    obtain ⟨d, hd⟩ : ∃ d, 256 = k + 1 + d := ⟨256 - (k + 1), by omega⟩
    rw [show 256 - k = d + 1 by omega, show 256 - (k + 1) = d by omega]
    have hl : (a256.take k).length = k := by rw [List.length_take, a256_length]; omega
    have hl2 : ((a256.take k).map (Value.int .u8)).length = k := by rw [List.length_map, hl]
    rw [List.take_succ_eq_append_getElem (by rw [a256_length]; omega), a256_at]
    unfold bv
    rw [List.map_append, List.set_append, if_neg (by omega), hl2, Nat.sub_self, List.replicate_succ]
    simp
  rw [e] at this
  exact this

set_option maxHeartbeats 1000000 in
theorem allBytes_any (w : World) : Calls Try.prog 24 #[] w fun e w' => e = .returned (.slice (some ⟨w.heap.size, 0, none⟩) 256 256) ∧ Hid (Row w' w.heap.size 5 (bv a256)) ∧ Ext w w' := by
  have hmk := run_make_row' (P := Try.prog) 22 5 (.int .u8 0) 1 Try.underlying22 info5 rfl .i64 .i64 256 (by omega) (by omega)
  rw [show ((256 : Nat) : Int) = 256 from rfl] at hmk
  have st : Hid (∃ W, W = w.alloc (.cells (madeCells #[.int .u8 0] 256) 5) ∧ Ext w W ∧ Row W w.heap.size 5 (bv (a256.take 0 ++ List.replicate (256 - 0) 0))) := by
    refine ⟨_, rfl, (Ext.refl _).alloc _, ?_⟩
    have : ∀ n, Row (w.alloc (.cells (madeCells #[.int .u8 0] n) 5)) w.heap.size 5 (bv (a256.take 0 ++ List.replicate n 0)) := fun n => by
      have := Row.made w 5 (.int .u8 0) n
      simpa using this
    exact this 256
  go_enter Try.func24, Try.ntmps24
  go_wp2
  obtain ⟨W, hW, hE, hR⟩ := st.out
  rw [← hW]
  have HE : Hid (Ext w W) := hE
  have HR : Hid (Row W w.heap.size 5 (bv (a256.take 0 ++ List.replicate (256 - 0) 0))) := hR
  clear hW hE hR st hmk
  go_loopg [2, 6] 256 (fun gg _ s wr => ∃ k : Nat, k ≤ 256 ∧ 256 - k ≤ gg ∧ s = .int .i64 k ∧ Aside (Ext w wr) ∧ Aside (Row wr w.heap.size 5 (bv (a256.take k ++ List.replicate (256 - k) 0))))
  case atStart => exact ⟨0, Nat.zero_le _, by omega, rfl, HE.out, HR.out⟩
  case round =>
    obtain ⟨k, hk, hgg, rfl, BW, A⟩ := hrel
    by_cases hlt : k < 256
    · have hltz : (k : Int) < 256 := by omega
      have f1 := A.out.fr k
      have c1 : ∃ v, wr.cell? ⟨w.heap.size, k, none⟩ = some v := ⟨_, A.out.cell k (by simp [a256_length]; omega)⟩
      obtain ⟨v, c1⟩ := c1
      have nx : Hid (Row (wr.setCell ⟨w.heap.size, k, none⟩ (.int .u8 k)) w.heap.size 5 (bv (a256.take (k + 1) ++ List.replicate (256 - (k + 1)) 0))) := fill_bytes wr _ k hlt A.out
      have nE : Hid (Ext w (wr.setCell ⟨w.heap.size, k, none⟩ (.int .u8 k))) := BW.out.setCell (Nat.le_refl _) _
      go_wp2
      go_roundg (256 - (k + 1))
      case measure => omega
      case rel => exact ⟨k + 1, by omega, by omega, by go_num, nE.out, nx.out⟩
    · have hk' : k = 256 := by omega
      have HR2 : Hid (Row wr w.heap.size 5 (bv a256)) := by
        have := A.out
        rw [hk', Nat.sub_self, List.replicate_zero, List.append_nil, List.take_of_length_le (by rw [a256_length]; omega)] at this
        exact this
      clear A
      go_wp2
      go_ret
      exact ⟨rfl, HR2, BW.out⟩

theorem tf_splice {L : List Int} {p : Nat} (hp : p < L.length) : (splice (bv L) 1 (bv (L.take p))).set 0 (.int .u8 (L.getD p 0)) = bv (tf L p) := by
  unfold splice tf bv
  have hl : (L.take p).length = p := by rw [List.length_take]; omega
  cases L with
  | nil => simp at hp
  | cons x L =>
    simp only [List.length_map, hl, List.map_cons, List.take_succ_cons, List.take_zero, List.cons_append, List.nil_append, List.set_cons_zero, List.map_append]
    rw [show 1 + p = p + 1 by omega, List.drop_succ_cons, List.drop_succ_cons, List.map_drop]

theorem info5s : (Try.prog.info? 5).map (·.size) = some 1 := by kernel_rfl

set_option maxHeartbeats 1000000 in
theorem toFront_any (B p : Nat) (L : List Int) (w : World) (hr : Row w B 5 (bv L)) (hL : L.length = 256) (hp : p < 256) :
    Calls Try.prog 26 #[.slice (some ⟨B, 0, none⟩) 256 256, .int .i64 p] w fun e w' => e = .returned (.tuple #[]) ∧ Row w' B 5 (bv (tf L p)) ∧ KB B w w' := by
  have e0 : w.cell? ⟨B, p, none⟩ = some (.int .u8 (L.getD p 0)) := by
    rw [hr.cell p (by simp; omega)]
    simp [List.getD_eq_getElem?_getD, show p < L.length by omega]
  have HS : Hid ((splice (bv L) 1 (bv (L.take p))).set 0 (.int .u8 (L.getD p 0)) = bv (tf L p)) := tf_splice (by omega)
  have HL : Hid ((splice (bv L) 1 (bv (L.take p))).length = 256) := by
    show _ = _
    rw [length_splice _ _ _ (by simp; omega)]
    simp [hL]
  generalize L.getD p 0 = b at *
  have hpz : (p : Int) < 256 := by omega
  have HR : Hid (Row w B 5 (bv L)) := hr
  have hsrc : Hid (∀ j v, (bv (L.take p))[j]? = some v → w.cell? ((⟨B, 0, none⟩ : Addr).add j) = some v) := by
    intro j v hj
    have hj' : j < p := by
      rcases Nat.lt_or_ge j p with h | h
      · exact h
      · rw [List.getElem?_eq_none (by simp; omega)] at hj
        cases hj
    rw [Addr.add_lit, Nat.zero_add, hr.cell j (by simp; omega)]
    simp [hj', show j < L.length by omega] at hj
    simp [hj]
  have hlen : Hid ((bv (L.take p)).length = p) := by show _ = _; simp; omega
  have hcl : Hid (1 + p ≤ (bv L).length) := by show _ ≤ _; simp; omega
  clear hr hL
  have hp1 : (1 : Int) ≤ (p : Int) + 1 := by omega
  have hp2 : (p : Int) + 1 ≤ 256 := by omega
  have hp3 : (p : Int) ≤ 256 := by omega
  have hp4 : IntKind.i64.wrap ((p : Int) + 1) = (p : Int) + 1 := by rw [IntKind.wrap_i64]; omega
  have hp5 : max ((p : Int) + 1) 0 = (p : Int) + 1 := by omega
  have hp6 : ((p : Int) + 1).toNat - 1 = p := by omega
  have hp7 : (0 : Int) ≤ (p : Int) + 1 := by omega
  go_enter Try.func26, Try.ntmps26
  go_wp2
  go_region_law (refine step_copy_kb rfl (.tmp 12) (.tmp 15) 22 22 rfl 5 Try.underlying22 info5s (some ⟨B, 1, none⟩) (some ⟨B, 0, none⟩) p 255 p 256 (by rfl) (by rfl) B 1 (bv L) 5 (HR.out.ext (ext_drew w)) (bv (L.take p)) (by rw [hlen.out]; exact (Nat.min_self p).symm) (fun _ => ⟨rfl, _, rfl, fun j v hj => (ext_drew w).cell (hsrc.out j v hj)⟩) (by rw [hlen.out]; exact hcl.out) (fun v hv => by obtain ⟨q, _, rfl⟩ := List.mem_map.1 hv; rfl) ?_; intro w2 R2 K2)
  have f1 := R2.out.fr 0
  obtain ⟨v0, c0⟩ : ∃ v, w2.cell? ⟨B, 0, none⟩ = some v := ⟨_, R2.out.cell 0 (by rw [HL.out]; omega)⟩
  have R3 : Hid (Row (w2.setCell ⟨B, 0, none⟩ (.int .u8 b)) B 5 (bv (tf L p))) := by
    have := R2.out.set 0 (.int .u8 b)
    rw [HS.out] at this
    exact this
  clear HR hsrc hlen hcl R2 HS HL e0
  go_wp2
  go_end0
  exact ⟨rfl, R3.out, ((KB.of_ext (ext_drew w)).trans K2.out).setCell _⟩

set_option maxHeartbeats 1000000 in
theorem indexByte_any (B : Nat) (L : List Int) (b : Int) (w : World) (hr : Row w B 5 (bv L)) (n : Nat) (hn : L.length = n) :
    Calls Try.prog 25 #[.slice (some ⟨B, 0, none⟩) n n, .int .u8 b] w fun e w' => e = .returned (.int .i64 (Lib.indexByte (Lib.bytesOf L) b.toNat.toUInt8)) ∧ w' = w := by
  have hx := Lib.run_indexByteSlice (P := Try.prog) w B 0 n n L hn (fun i hi => by
    rw [Nat.zero_add, hr.cell i (by simp; omega)]
    simp [List.getD_eq_getElem?_getD, show i < L.length by omega]) b
  generalize Lib.indexByte (Lib.bytesOf L) b.toNat.toUInt8 = r at *
  clear hr
  go_enter Try.func25, Try.ntmps25
  go_wp2
  rw [run_callFunc_extern Try.func35 (by kernel_rfl) (by kernel_rfl) (by kernel_rfl) (e := Extern.BytealgIndexByte.indexByte) (by kernel_rfl), hx]
  simp only [Result.andThen]
  rw [Oper.upon_value]
  go_wp2
  go_ret
  exact ⟨rfl, rfl⟩

end Go.Proofs.Ytkccdhidmihekaa
