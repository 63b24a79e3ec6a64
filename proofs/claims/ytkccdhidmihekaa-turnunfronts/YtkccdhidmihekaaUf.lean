/-
  quipuref.Unfronts: the text whose places these are, as the document's answer finds it, byte by byte.
-/
import Derived.Test.YtkccdhidmihekaaFs2
namespace Go.Proofs.Ytkccdhidmihekaa
open Go.RowKit Go.Maps

theorem OwnB.ext {w0 w w' : World} {v : Value} {l : List Int} (h : OwnB w0 w v l) (e : Ext w w') : OwnB w0 w' v l := ⟨h.1.trans e, ownsRow_ext h.2 e⟩

theorem OwnB.none_made (w : World) (o : Nat) (ho : o = w.heap.size) : OwnB w (w.alloc (.cells #[] 5)) (.slice (some ⟨o, 0, none⟩) 0 0) [] := by
  subst ho
  exact ⟨(Ext.refl w).alloc _, by simp, .inr ⟨w.heap.size, 0, #[], rfl, Nat.le_refl _, heap_alloc_new w _, Nat.le_refl _, by simp, by simp, by simp⟩⟩

theorem bits_one (w : World) (b : Int) : Bits (w.alloc (.cells #[.int .u8 b] 5)) ⟨some ⟨w.heap.size, 0, none⟩, 1, [b]⟩ := by
  refine ⟨by simp, by simp [maxLen], by simp, w.heap.size, 0, fun _ => rfl, fun i hi => ?_⟩
  have : i = 0 := by simp at hi; omega
  subst this
  rw [Nat.zero_add]
  exact cell_of_one (heap_alloc_new w _)

theorem frs_last {R : List Int} {x : Int} : (frs (R ++ [x])).getD R.length 0 = ((ls R.reverse).idxOf x : Int) := by
  simp [frs, List.getD_eq_getElem?_getD]

set_option maxHeartbeats 4000000 in
theorem unfronts_any (x : Nm) (w : World) (hx : Nums w x) (h : x.z.length ≤ 64) (hr : x.z.any outN = false) :
    Calls Try.prog 18 #[x.v] w fun e w' => ∃ v, e = .returned v ∧ OwnB w w' v (rr x.z x.z.length).reverse := by
  obtain ⟨a, c, l⟩ := x
  have hz : ∀ y ∈ l, 0 ≤ y ∧ y < 256 := by
    intro y hy
    have h5 := List.any_eq_false.1 hr y hy
    simp [outN] at h5
    omega
  obtain ⟨h1, h2, h0, b, o, h3, h4⟩ := hx
  simp only [Nm.v] at *
  obtain ⟨n, hn⟩ : ∃ n, l.length = n := ⟨_, rfl⟩
  have HN : Hid (l.length = n) := hn
  have HZ : Hid (∀ y ∈ l, 0 ≤ y ∧ y < 256) := hz
  rw [hn] at h1 h h3 h4 ⊢
  clear hn h2 h1 hz hr
  have H4 : Hid (∀ i, i < n → w.cell? ⟨b, o + i, none⟩ = some (.int .i64 (l.getD i 0))) := h4
  clear h4
  have O0 : Hid (OwnB w w (.slice none 0 0) (rr l 0).reverse) := OwnB.nil (Ext.refl w)
  go_enter Try.func18, Try.ntmps18
  go_wp2
  go_loopg [3, 5, 6, 7, 10] n (fun gg v _ _ _ s wr => ∃ (k : Nat) (u : Value), k ≤ n ∧ n - k ≤ gg ∧ s = .int .i64 k ∧ u = v ∧ Aside (OwnB w wr u (rr l k).reverse))
  case atStart => exact ⟨0, _, by omega, by omega, rfl, rfl, O0.out⟩
  case round =>
    obtain ⟨k, u, hk, hgg, rfl, rfl, A⟩ := hrel
    clear O0
    by_cases hlt : k < n
    · have hltz : (k : Int) < (n : Int) := by omega
      obtain rfl := h3 (by omega)
      have hkl : k < l.length := by rw [HN.out]; exact hlt
      have e1 := A.out.1.cell (H4.out k hlt)
      have hin := rr_inB HZ.out k (by omega)
      have hzk : 0 ≤ l.getD k 0 ∧ l.getD k 0 < 256 := by
        have : l.getD k 0 = l[k] := by simp [List.getD_eq_getElem?_getD, hkl]
        rw [this]
        exact HZ.out _ (List.getElem_mem hkl)
      obtain ⟨p, hp⟩ : ∃ p : Nat, l.getD k 0 = (p : Int) := ⟨(l.getD k 0).toNat, by omega⟩
      have hp256 : p < 256 := by omega
      have hrr : Hid (rr l (k + 1) = (ls (rr l k)).getD p 0 :: rr l k) := by
        show _ = _
        rw [rr, hp, Int.toNat_natCast]
      have hx0 := mem_a256.1 (ls_at_mem hin hp256)
      obtain ⟨x0, hx0e⟩ : ∃ x0 : Nat, (ls (rr l k)).getD p 0 = (x0 : Int) := ⟨((ls (rr l k)).getD p 0).toNat, by omega⟩
      have hx256 : x0 < 256 := by omega
      have hix : Hid (∀ y : Nat, y < 256 → ((ls (rr l k)).idxOf (y : Int) = p ↔ y = x0)) := by
        intro y hy
        constructor
        · intro he
          have h6 := ls_at_idx hin (b := (y : Int)) (mem_a256.2 (by omega))
          rw [he, hx0e] at h6
          omega
        · intro he
          subst he
          rw [← hx0e]
          exact ls_idx_at hin hp256
      have HIN : Hid (InB (rr l k)) := hin
      have hil : Hid (∀ y : Nat, y < 256 → (ls (rr l k)).idxOf (y : Int) < 256) := fun y hy => ls_idx_lt hin (mem_a256.2 (by omega))
      have hRR : Hid (rr l (k + 1) = (x0 : Int) :: rr l k) := by rw [← hx0e]; exact hrr.out
      have hRL : Hid ((rr l k).length = k) := rr_length l k
      rw [hp] at e1
      have HA : Hid (OwnB w wr u (rr l k).reverse) := A.out
      clear A hin hzk hp hx0e hrr hx0
      go_wp2
      obtain ⟨wo, hwo⟩ : ∃ wo, wo = wr := ⟨_, rfl⟩
      subst hwo
      go_loopg [3, 6, 7] 256 (fun gg s3 s6 _ wq => ∃ (y : Nat) (u' : Value), y ≤ x0 ∧ 256 - y ≤ gg ∧ s6 = .int .i64 y ∧ u' = s3 ∧ Aside (OwnB w wq u' (rr l k).reverse))
      case atStart => exact ⟨0, _, by omega, by omega, rfl, rfl, HA.out⟩
      case round =>
        obtain ⟨y, u', hy, hgg2, rfl, rfl, A⟩ := hrel
        clear HA
        have hyz : (y : Int) < 256 := by omega
        have hy0 : (0 : Int) ≤ (y : Int) := by omega
        obtain ⟨r, hrv, hrl, hrb⟩ := A.out.bits
        have HU : Hid (OwnB w wr u' (rr l k).reverse) := A.out
        clear A
        obtain ⟨ra, rc, rlst⟩ := r
        simp only at hrl
        subst hrl
        have hlen : Hid ((rr l k).reverse.length = k) := by show _ = _; rw [List.length_reverse]; exact hRL.out
        have hv2 : u' = .slice ra k rc := by rw [hrv, Wd.v]; simp only; rw [hlen.out]
        subst hv2
        have ex : Hid (Value.slice ra k rc = Wd.v ⟨ra, rc, (rr l k).reverse⟩) := hrv
        clear hrv
        have O1 : Hid (OwnB wr (wr.alloc (.cells #[] 5)) (.slice (some ⟨wr.heap.size, 0, none⟩) 0 0) []) := OwnB.none_made wr _ rfl
        have B1 : Hid (Bits (wr.alloc (.cells #[] 5)) ⟨ra, rc, (rr l k).reverse⟩) := hrb.ext ((Ext.refl _).alloc _)
        have L1 : Hid (([] : List Int).length + (rr l k).reverse.length ≤ 140737488355328) := by show _ ≤ _; rw [hlen.out]; simp; omega
        have L2 : Hid (([] ++ (rr l k).reverse).length + [(y : Int)].length ≤ 140737488355328) := by show _ ≤ _; rw [List.nil_append, hlen.out]; simp; omega
        have HFr : Hid (∀ (q : Wd) W, Bits W q → q.l = [] ++ (rr l k).reverse ++ [(y : Int)] → Calls Try.prog 16 #[q.v] W fun e w' => ∃ v, e = .returned v ∧ OwnN W w' v (frs ((rr l k).reverse ++ [(y : Int)]))) := by
          intro q W hq hql
          have := fronts_any q W hq (by
            rw [hql]
            intro z hz
            simp only [List.nil_append, List.mem_append, List.mem_reverse, List.mem_singleton] at hz
            rcases hz with hz | hz
            · exact HIN.out z hz
            · rw [hz]; exact mem_a256.2 (by omega)) (by rw [hql, List.nil_append, List.length_append, hlen.out]; simp; omega)
          rw [hql, List.nil_append] at this
          exact this
        clear hrb
        go_wp2_with (first
          | (at_builtin; refine wpList_appendBits rfl _ _ rfl wr _ q3.v (by rfl) ([] ++ (rr l k).reverse) (A3.out.ext ((Ext.refl _).alloc _)) ⟨some ⟨w3.heap.size, 0, none⟩, 1, [(y : Int)]⟩ (by rfl) (bits_one w3 _) L2.out ?_; intro v4 w4 A4')
          | (at_builtin; refine wpList_appendBits rfl _ _ rfl wr _ (.slice (some ⟨wr.heap.size, 0, none⟩) 0 0) (by rfl) [] O1.out ⟨ra, rc, (rr l k).reverse⟩ (by exact ex.out) B1.out L1.out ?_; intro v3 w3 A3'; obtain ⟨q3, rfl, -, -⟩ := A3'.bits; have A3 : Hid (OwnB wr w3 q3.v ([] ++ (rr l k).reverse)) := A3'; clear A3'))
        obtain ⟨q4, rfl, hq4, hb4⟩ := A4'.bits
        have hfr := HFr.out q4 w4 hb4 hq4
        have E4 : Hid (Ext wr w4) := A4'.1
        clear A4' hq4 hb4 A3 HFr O1 B1 L1 L2
        go_wp2_with fail
        refine hfr.mono ?_
        rintro e w5 ⟨v5, rfl, O5⟩
        have hl5 : (frs ((rr l k).reverse ++ [(y : Int)])).length = k + 1 := by rw [frs_length, List.length_append, hlen.out]; rfl
        have hla5 : Hid ((frs ((rr l k).reverse ++ [(y : Int)])).getD k 0 = ((ls (rr l k)).idxOf (y : Int) : Int)) := by
          have := frs_last (R := (rr l k).reverse) (x := (y : Int))
          rw [hlen.out, List.reverse_reverse] at this
          exact this
        obtain ⟨m5, rfl, hz5, n5⟩ := O5.nums
        obtain ⟨ma, mc, mz⟩ := m5
        simp only at hz5
        subst hz5
        obtain ⟨g1, g2, g0, gb, go, g3, g4⟩ := n5
        simp only [Nm.v] at *
        rw [hl5] at g1 g3 g4 ⊢
        unfold maxLen at g2
        obtain rfl := g3 (by omega)
        have c5 := g4 k (by omega)
        rw [hla5.out] at c5
        have HU5 : Hid (OwnB w w5 (.slice ra k rc) (rr l k).reverse) := HU.out.ext (E4.out.trans O5.1)
        clear O5 hl5 hla5 g3 g4 hfr HU E4 g0
        have hip := hil.out y (by omega)
        by_cases hyx : y = x0
        · subst hyx
          have hidx : (ls (rr l k)).idxOf (y : Int) = p := (hix.out y (by omega)).2 rfl
          rw [hidx] at c5
          have NX : Hid (∀ v' w', OwnB w w' v' ((rr l k).reverse ++ [(y : Int)]) → OwnB w w' v' (rr l (k + 1)).reverse) := by
            intro v' w' hO
            rw [hRR.out, List.reverse_cons]
            exact hO
          have L3 : Hid ((rr l k).reverse.length + [(y : Int)].length ≤ 140737488355328) := by show _ ≤ _; rw [hlen.out]; simp; omega
          clear hidx hix hil hip hRR
          go_wp2_with (at_builtin; refine wpList_appendBits rfl _ _ rfl w _ (.slice ra k rc) (by rfl) (rr l k).reverse (HU5.out.ext ((Ext.refl _).alloc _)) ⟨some ⟨w5.heap.size, 0, none⟩, 1, [(y : Int)]⟩ (by rfl) (bits_one w5 _) L3.out ?_; intro v6 w6 A6; have A6' : Hid (OwnB w w6 v6 (rr l (k + 1)).reverse) := NX.out v6 w6 A6)
          go_roundg (n - (k + 1))
          case measure => omega
          case rel => exact ⟨k + 1, v6, by omega, by omega, by go_num, rfl, A6'.out⟩
        · have hidx : (ls (rr l k)).idxOf (y : Int) ≠ p := fun h => hyx ((hix.out y (by omega)).1 h)
          clear hix hil hRR
          generalize (ls (rr l k)).idxOf (y : Int) = iy at *
          have hneq : ((iy : Int) == (p : Int)) = false := beq_eq_false_iff_ne.2 (by omega)
          go_wp2
          go_roundg (256 - (y + 1))
          case measure => omega
          case rel => exact ⟨y + 1, _, by omega, by omega, by go_num, rfl, HU5.out⟩
    · have F : Hid (OwnB w wr u (rr l n).reverse) := by
        have := A.out
        rw [show k = n by omega] at this
        exact this
      clear A
      go_wp2
      go_ret
      exact ⟨u, rfl, F.out⟩

end Go.Proofs.Ytkccdhidmihekaa
