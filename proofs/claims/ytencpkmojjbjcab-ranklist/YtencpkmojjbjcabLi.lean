/-
  rank.orders, rank.numbersBelow.
-/
import Derived.Test.YtencpkmojjbjcabKb
import Derived.Test.YtencpkmojjbjcabOr
import Derived.Deep.RegionLaw
namespace Go.Proofs.Ytencpkmojjbjcab
open Go.RowKit

theorem orders_any (n : Nat) (hn : n ≤ 8) (w : World) : Calls Try.prog 16 #[.int .i64 n] w fun e w' => e = .returned (.int .i64 (fc n : Nat)) ∧ w' = w := by
  have FEW : Hid (∀ k, k ≤ n → fc k ≤ 40320) := fun k hk => fc_few' (by omega)
  have NX : Hid (∀ k : Nat, ((fc k : Nat) : Int) * ((k : Int) + 1) = (fc (k + 1) : Nat)) := fun k => by
    show _ = ((fc k * (k + 1) : Nat) : Int)
    rw [Int.natCast_mul]; rfl
  go_enter Try.func16, Try.ntmps16
  go_wp2
  go_loopg [3, 6] n (fun gg s3 s wr => ∃ k : Nat, k ≤ n ∧ n - k ≤ gg ∧ s3 = .int .i64 (fc k : Nat) ∧ s = .int .i64 k ∧ wr = w)
  case atStart => exact ⟨0, Nat.zero_le _, by omega, rfl, rfl, rfl⟩
  case round =>
    obtain ⟨k, hk, hg, rfl, rfl, rfl⟩ := hrel
    by_cases hlt : k < n
    · have hltz : (k : Int) < (n : Int) := by omega
      have nx := NX.out k
      have b1 := FEW.out (k + 1) (by omega)
      obtain ⟨B, hB⟩ : ∃ B, fc (k + 1) = B := ⟨_, rfl⟩
      rw [hB] at nx b1
      have HB : Hid (fc (k + 1) = B) := hB
      clear hB
      generalize fc k = A at *
      go_wp2
      go_roundg (n - (k + 1))
      case measure => omega
      case rel => exact ⟨k + 1, by omega, by omega, by rw [HB.out], by go_num, rfl⟩
    · have hk' : k = n := by omega
      subst hk'
      go_wp2
      go_ret
      exact ⟨rfl, rfl⟩

theorem fill_nums (w : World) (B n k : Nat) (hk : k < n) (h : Row w B 3 (iv ((frst n).take k ++ List.replicate (n - k) 0))) : Row (w.setCell ⟨B, k, none⟩ (.int .i64 k)) B 3 (iv ((frst n).take (k + 1) ++ List.replicate (n - (k + 1)) 0)) := by
  have := h.set k (.int .i64 k)
  have e : (iv ((frst n).take k ++ List.replicate (n - k) 0)).set k (.int .i64 k) = iv ((frst n).take (k + 1) ++ List.replicate (n - (k + 1)) 0) := by
    obtain ⟨d, hd⟩ : ∃ d, n = k + 1 + d := ⟨n - (k + 1), by omega⟩
    rw [show n - k = d + 1 by omega, show n - (k + 1) = d by omega]
    have hl : ((frst n).take k).length = k := by rw [List.length_take, frst_length]; omega
    have hl2 : (((frst n).take k).map (Value.int .i64)).length = k := by rw [List.length_map, hl]
    have hg : (frst n)[k]'(by rw [frst_length]; omega) = (k : Int) := by simp [frst]
    rw [List.take_succ_eq_append_getElem (by rw [frst_length]; omega), hg]
    unfold iv
    rw [List.map_append, List.set_append, if_neg (by omega), hl2, Nat.sub_self, List.replicate_succ]
    simp
  rw [e] at this
  exact this

set_option maxHeartbeats 1000000 in
theorem numbersBelow_any (n : Nat) (hn : n ≤ 8) (w : World) : Calls Try.prog 17 #[.int .i64 n] w fun e w' => e = .returned (.slice (some ⟨w.heap.size, 0, none⟩) n n) ∧ Row w' w.heap.size 3 (iv (frst n)) ∧ Ext w w' := by
  have hmk := run_make_row' (P := Try.prog) 27 3 (.int .i64 0) 8 Try.underlying27 info3 rfl .i64 .i64 n (by omega) (by omega)
  have st : Hid (∃ W, W = w.alloc (.cells (madeCells #[.int .i64 0] n) 3) ∧ Ext w W ∧ Row W w.heap.size 3 (iv ((frst n).take 0 ++ List.replicate (n - 0) 0))) := by
    refine ⟨_, rfl, (Ext.refl _).alloc _, ?_⟩
    have := Row.made w 3 (.int .i64 0) n
    simpa using this
  have FIN : Hid ((frst n).take n ++ List.replicate (n - n) 0 = frst n) := by
    show _ = _
    rw [Nat.sub_self, List.replicate_zero, List.append_nil, List.take_of_length_le (by rw [frst_length]; omega)]
  have LEN : Hid (∀ k, k ≤ n → (iv ((frst n).take k ++ List.replicate (n - k) 0)).length = n) := fun k hk => by
    simp [frst_length]; omega
  have FILL : Hid (∀ (W : World) k, k < n → Row W w.heap.size 3 (iv ((frst n).take k ++ List.replicate (n - k) 0)) → Row (W.setCell ⟨w.heap.size, k, none⟩ (.int .i64 k)) w.heap.size 3 (iv ((frst n).take (k + 1) ++ List.replicate (n - (k + 1)) 0))) := fun W k hk h => fill_nums W _ n k hk h
  go_enter Try.func17, Try.ntmps17
  go_wp2
  obtain ⟨W, hW, hE, hR⟩ := st.out
  rw [← hW]
  have HE : Hid (Ext w W) := hE
  have HR : Hid (Row W w.heap.size 3 (iv ((frst n).take 0 ++ List.replicate (n - 0) 0))) := hR
  clear hW hE hR st hmk
  go_loopg [4, 9] n (fun gg _ s wr => ∃ k : Nat, k ≤ n ∧ n - k ≤ gg ∧ s = .int .i64 k ∧ Aside (Ext w wr) ∧ Aside (Row wr w.heap.size 3 (iv ((frst n).take k ++ List.replicate (n - k) 0))))
  case atStart => exact ⟨0, Nat.zero_le _, by omega, rfl, HE.out, HR.out⟩
  case round =>
    obtain ⟨k, hk, hgg, rfl, BW, A⟩ := hrel
    by_cases hlt : k < n
    · have hltz : (k : Int) < (n : Int) := by omega
      have f1 := A.out.fr k
      have c1 : ∃ v, wr.cell? ⟨w.heap.size, k, none⟩ = some v := ⟨_, A.out.cell k (by rw [LEN.out k hk]; exact hlt)⟩
      obtain ⟨v, c1⟩ := c1
      have nx : Hid (Row (wr.setCell ⟨w.heap.size, k, none⟩ (.int .i64 k)) w.heap.size 3 (iv ((frst n).take (k + 1) ++ List.replicate (n - (k + 1)) 0))) := FILL.out wr k hlt A.out
      have nE : Hid (Ext w (wr.setCell ⟨w.heap.size, k, none⟩ (.int .i64 k))) := BW.out.setCell (Nat.le_refl _) _
      clear A FILL LEN HR
      go_wp2
      go_roundg (n - (k + 1))
      case measure => omega
      case rel => exact ⟨k + 1, by omega, by omega, by go_num, nE.out, nx.out⟩
    · have hk' : k = n := by omega
      subst hk'
      have HR2 : Hid (Row wr w.heap.size 3 (iv (frst k))) := by
        have := A.out
        rw [FIN.out] at this
        exact this
      clear A FIN LEN FILL HR
      go_wp2
      go_ret
      exact ⟨rfl, HR2.out, BW.out⟩
end Go.Proofs.Ytencpkmojjbjcab
