/-
  stuff.tooLarge, stuff.Frames, quipuref.Framed.
-/
import Derived.Test.YtglajpmifhecgaaFc
import Derived.Test.YtglajpmifhecgaaCn
import Derived.Test.YtglajpmifhecgaaTx
namespace Go.Proofs.Ytglajpmifhecgaa
open Go.RowKit
set_option linter.unusedVariables false

/-- There are too many texts, or one of them is too long. -/
def large (ts : List (List Bool)) : Bool := decide (8 < ts.length) || ts.any (fun t => decide (64 < t.length))
theorem large_long {ts : List (List Bool)} (h : 8 < ts.length) : large ts = true := by simp [large, h]
theorem large_any {ts : List (List Bool)} (h : ts.length ≤ 8) : large ts = ts.any (fun t => decide (64 < t.length)) := by
  have h2 : decide (8 < ts.length) = false := by simp; omega
  simp [large, h2]
theorem large_no {ts : List (List Bool)} : large ts = false ↔ ts.length ≤ 8 ∧ ∀ t ∈ ts, t.length ≤ 64 := by
  simp [large]
theorem large_yes {ts : List (List Bool)} {t : List Bool} (h : t ∈ ts) (h2 : 64 < t.length) : large ts = true := by
  rw [← Bool.not_eq_false, large_no]
  intro h3
  have := h3.2 t h
  omega

set_option maxHeartbeats 400000 in
theorem tooLong_any (x : Wd) (w : World) : Calls Try.prog 29 (#[x.v] ++ #[]) w fun e w' => e = .returned (.bool (decide (64 < x.l.length))) ∧ Ext w w' := by
  obtain ⟨a, c, l⟩ := x
  simp only [Wd.v]
  generalize l.length = n
  show Calls Try.prog 29 #[.slice a n c] w _
  go_enter Try.func29, Try.ntmps29
  go_wp2
  go_ret
  exact ⟨ret_bool (by simp; omega), Ext.refl w⟩

set_option maxHeartbeats 400000 in
theorem tooLarge_any (a : Option Addr) (c : Nat) (g : List Wd) (w : World) (hg : Wds w a c g) :
    Calls Try.prog 22 #[.slice a g.length c] w fun e w' => e = .returned (.bool (large (g.map (·.l)))) ∧ Ext w w' := by
  have eg : ∀ args w, (callFunc 29 args).run Try.prog w = .ok (.enter 29 args) w := enters_of Try.func29 (by kernel_rfl) rfl
  have hc := contains_any a c g 29 #[] (fun x => decide (64 < x.l.length)) w eg hg (fun W x _ _ => tooLong_any x W)
  by_cases h8 : 8 < g.length
  · rw [large_long (by simpa using h8)]
    clear hc hg
    generalize g.length = n at *
    have h8' : (n : Int) > 8 := by omega
    go_enter Try.func22, Try.ntmps22
    go_wp2
    go_ret
    exact ⟨rfl, Ext.refl w⟩
  · have e := large_any (ts := g.map (·.l)) (by simpa using Nat.le_of_not_lt h8)
    have h8' : ¬ (g.length : Int) > 8 := by omega
    rw [e, List.any_map]
    have e2 : ((fun t : List Bool => decide (64 < t.length)) ∘ fun x : Wd => x.l) = fun x : Wd => decide (64 < x.l.length) := rfl
    rw [e2]
    clear e hg h8 e2
    cases hq : g.any (fun x => decide (64 < x.l.length))
    all_goals
      rw [hq] at hc
      clear hq
      generalize g.length = n at *
      go_enter Try.func22, Try.ntmps22
      go_wp2_with (go_at_call 28; refine hc.mono ?_; rintro e w' ⟨rfl, hb⟩)
      go_ret
      exact ⟨rfl, hb⟩

/-- The flags and the first so many texts between them. -/
def fw (g : List Wd) (k : Nat) : List Bool := frm ((g.take k).map (·.l))
theorem fw_zero (g : List Wd) : fw g 0 = fl := by
  show fl ++ [] = fl
  rw [List.append_nil]
theorem fw_next {g : List Wd} {k : Nat} (h : k < g.length) : fw g (k + 1) = fw g k ++ (sf 0 g[k].l ++ fl) := by
  unfold fw frm
  rw [List.take_succ_eq_append_getElem h, List.map_append, List.map_singleton, fr_snoc, List.append_assoc]
theorem fw_all (g : List Wd) : fw g g.length = frm (g.map (·.l)) := by
  unfold fw
  rw [List.take_length]
theorem fw_len {g : List Wd} (h8 : g.length ≤ 8) (h64 : ∀ x ∈ g, x.l.length ≤ 64) : ∀ k, k ≤ g.length → (fw g k).length ≤ 8 + 137 * k
  | 0, _ => by rw [fw_zero]; exact Nat.le_refl _
  | k + 1, hk => by
    have := fw_len h8 h64 k (by omega)
    have h1 := sf_len (g[k]'(by omega)).l 0
    have h2 := h64 _ (List.getElem_mem (h := by omega) (l := g) (n := k))
    rw [fw_next (by omega), List.length_append, List.length_append]
    have e8 : fl.length = 8 := rfl
    omega

theorem Frames_large (a : Option Addr) (c : Nat) (g : List Wd) (w : World) (hg : Wds w a c g) (hl : large (g.map (·.l)) = true) :
    Calls Try.prog 14 #[.slice a g.length c] w fun e w' => e = .returned (.tuple #[.slice none 0 0, .int .i64 1]) ∧ Ext w w' := by
  have c1 := tooLarge_any a c g w hg
  rw [hl] at c1
  clear hl hg
  generalize g.length = n at *
  go_enter Try.func14, Try.ntmps14
  go_wp2_with fail
  refine c1.mono ?_
  rintro e w1 ⟨rfl, E⟩
  clear c1
  have E1 : Hid (Ext w w1) := E
  clear E
  go_wp2
  go_ret2
  exact ⟨rfl, E1.out⟩

set_option maxHeartbeats 2000000 in
/-- stuff.Frames. -/
theorem Frames_good (a : Option Addr) (c : Nat) (g : List Wd) (w : World) (hg : Wds w a c g) (hl : large (g.map (·.l)) = false) :
    Calls Try.prog 14 #[.slice a g.length c] w fun e w' => ∃ v, e = .returned (.tuple #[v, .int .i64 0]) ∧ OwnB w w' v (frm (g.map (·.l))) := by
  have c1 := tooLarge_any a c g w hg
  rw [hl] at c1
  obtain ⟨h8, h64⟩ := large_no.1 hl
  rw [List.length_map] at h8
  have h64 : ∀ x ∈ g, x.l.length ≤ 64 := fun x hx => h64 x.l (List.mem_map.2 ⟨x, hx, rfl⟩)
  obtain ⟨h1, h2, h3, b, o, h4, h5⟩ := hg
  obtain ⟨G, hG⟩ : ∃ G : Nat → List Bool, ∀ k, G k = fw g k := ⟨_, fun _ => rfl⟩
  have HC : Hid (∀ i, i < g.length → ∃ x : Wd, w.cell? ⟨b, o + i, none⟩ = some x.v ∧ Bits w x ∧ x.l.length ≤ 64 ∧ G (i + 1) = G i ++ (sf 0 x.l ++ fl)) := fun i hi =>
    ⟨g[i], h5 i hi, h3 _ (List.getElem_mem hi), h64 _ (List.getElem_mem hi), by rw [hG, hG]; exact fw_next hi⟩
  have GL : Hid (∀ k, k ≤ g.length → (G k).length ≤ 8 + 137 * k) := fun k hk => by rw [hG]; exact fw_len h8 h64 k hk
  have G0 : Hid (G 0 = fl) := by show _ = _; rw [hG]; exact fw_zero g
  have GN : Hid (G g.length = frm (g.map (·.l))) := by show _ = _; rw [hG]; exact fw_all g
  clear h5 h3 h64 hl hG
  generalize frm (g.map (·.l)) = T at *
  generalize g.length = n at *
  unfold maxLen at h2
  go_enter Try.func14, Try.ntmps14
  go_wp2_with fail
  refine c1.mono ?_
  rintro e w1 ⟨rfl, E⟩
  have E1 : Hid (Ext w w1) := E
  clear c1 E
  go_wp2_with fail
  refine (flag_any w1).mono ?_
  rintro e w2 ⟨v, rfl, O⟩
  have O2 : Hid (OwnB w w2 v (G 0)) := by show OwnB _ _ _ _; rw [G0.out]; exact OwnB.base E1.out O
  clear O E1 G0
  go_wp2
  go_loopg [4, 6, 12] n (fun gg s4 _ s12 wr => ∃ (k : Nat) (sv : Value), k ≤ n ∧ n - k ≤ gg ∧ s12 = .int .i64 k ∧ sv = s4 ∧ Aside (OwnB w wr sv (G k)))
  case atStart => exact ⟨0, _, Nat.zero_le _, by omega, rfl, rfl, O2.out⟩
  case round =>
    obtain ⟨k, s4, hk, hgg, rfl, rfl, OO⟩ := hrel
    have O1 : Hid (OwnB w wr s4 (G k)) := OO.out
    clear OO O2
    by_cases hlt : k < n
    · have hltz : (k : Int) < (n : Int) := by omega
      obtain rfl := h4 (by omega)
      obtain ⟨⟨xa, xc, xl⟩, hx1, hx2, hx3, hx4⟩ := HC.out k hlt
      have gl := GL.out k hk
      simp only [Wd.v] at hx1 hx3 hx4
      have e1 := O1.out.1.cell hx1
      have XB : Hid (Bits w ⟨xa, xc, xl⟩) := hx2
      have GX : Hid (G (k + 1) = G k ++ (sf 0 xl ++ fl)) := hx4
      have c1 := stuffed_any ⟨xa, xc, xl⟩ (by show xl.length ≤ _; omega) wr (XB.out.ext O1.out.1)
      simp only [Wd.v] at c1
      have slen := sf_len xl 0
      clear hx1 hx2 hx4 HC GL GN
      go_wp2_with fail
      refine c1.mono ?_
      rintro e w3 ⟨v3, rfl, P3⟩
      have P3' : Hid (OwnB wr w3 v3 (sf 0 xl)) := P3
      clear c1 P3
      go_wp2_with fail
      refine (flag_any w3).mono ?_
      rintro e w4 ⟨v4, rfl, P4⟩
      obtain ⟨y1, rfl, l1, b1⟩ := O1.out.bits
      obtain ⟨y3, rfl, l3, b3⟩ := P3'.out.bits
      obtain ⟨y4, rfl, l4, b4⟩ := P4.bits
      have E34 : Ext w3 w4 := P4.1
      have E4 : Ext wr w4 := P3'.out.1.trans E34
      have CC : Hid (Calls Try.prog 24 #[.slice (some ⟨w4.heap.size, 0, none⟩) 3 3] (w4.alloc (.cells #[y1.v, y3.v, y4.v] 22)) fun e w' => ∃ v, e = .returned v ∧ OwnB w w' v (G (k + 1))) := by
        have EA : Ext w4 (w4.alloc (.cells #[y1.v, y3.v, y4.v] 22)) := (Ext.refl _).alloc _
        have hr : Row (w4.alloc (.cells #[y1.v, y3.v, y4.v] 22)) w4.heap.size 22 ([y1, y3, y4].map Wd.v) := heap_alloc_new w4 _
        have hw := hr.wds (by unfold maxLen; simp) (by
          intro y hy
          simp only [List.mem_cons, List.not_mem_nil, or_false] at hy
          rcases hy with rfl | rfl | rfl
          · exact b1.ext (E4.trans EA)
          · exact b3.ext (E34.trans EA)
          · exact b4.ext EA)
        have hc : cat [y1, y3, y4] = G (k + 1) := by
          unfold cat
          rw [GX.out]
          simp [l1, l3, l4]
        have e8 : fl.length = 8 := rfl
        have := concat_any _ 3 _ _ hw (by rw [hc, GX.out, List.length_append, List.length_append]; omega)
        rw [hc] at this
        refine this.mono ?_
        rintro e w' ⟨v, rfl, O⟩
        exact ⟨v, rfl, OwnB.base (O1.out.1.trans (E4.trans EA)) O⟩
      clear b1 b3 b4 l1 l3 l4 E34 E4 P4 P3' O1 XB GX slen gl
      go_wp2_with fail
      refine CC.out.mono ?_
      rintro e w5 ⟨v5, rfl, O5⟩
      have O5' : Hid (OwnB w w5 v5 (G (k + 1))) := O5
      clear CC O5
      go_wp2
      go_roundg (n - (k + 1))
      case measure => omega
      case rel => exact ⟨k + 1, v5, by omega, by omega, by go_num, rfl, O5'.out⟩
    · obtain rfl : k = n := by omega
      have O2 : Hid (OwnB w wr s4 T) := by rw [← GN.out]; exact O1.out
      clear O1 HC GL GN
      go_wp2
      go_ret2
      exact ⟨s4, rfl, O2.out⟩

set_option maxHeartbeats 2000000 in
/-- quipuref.Framed. -/
theorem refFramed_any (a : Option Addr) (c : Nat) (g : List Wd) (w : World) (hg : Wds w a c g) (hl : large (g.map (·.l)) = false) :
    Calls Try.prog 15 #[.slice a g.length c] w fun e w' => ∃ v, e = .returned v ∧ OwnB w w' v (frm (g.map (·.l))) := by
  obtain ⟨h8, h64⟩ := large_no.1 hl
  rw [List.length_map] at h8
  have h64 : ∀ x ∈ g, x.l.length ≤ 64 := fun x hx => h64 x.l (List.mem_map.2 ⟨x, hx, rfl⟩)
  obtain ⟨h1, h2, h3, b, o, h4, h5⟩ := hg
  obtain ⟨G, hG⟩ : ∃ G : Nat → List Bool, ∀ k, G k = fw g k := ⟨_, fun _ => rfl⟩
  have HC : Hid (∀ i, i < g.length → ∃ x : Wd, w.cell? ⟨b, o + i, none⟩ = some x.v ∧ Bits w x ∧ x.l.length ≤ 64 ∧ G (i + 1) = G i ++ (sf 0 x.l ++ fl)) := fun i hi =>
    ⟨g[i], h5 i hi, h3 _ (List.getElem_mem hi), h64 _ (List.getElem_mem hi), by rw [hG, hG]; exact fw_next hi⟩
  have GL : Hid (∀ k, k ≤ g.length → (G k).length ≤ 8 + 137 * k) := fun k hk => by rw [hG]; exact fw_len h8 h64 k hk
  have G0 : Hid (G 0 = fl) := by show _ = _; rw [hG]; exact fw_zero g
  have GN : Hid (G g.length = frm (g.map (·.l))) := by show _ = _; rw [hG]; exact fw_all g
  clear h5 h3 h64 hl hG
  generalize frm (g.map (·.l)) = T at *
  generalize g.length = n at *
  unfold maxLen at h2
  go_enter Try.func15, Try.ntmps15
  go_wp2_with fail
  refine (refFlag_any w).mono ?_
  rintro e w2 ⟨v, rfl, O⟩
  have O2 : Hid (OwnB w w2 v (G 0)) := by show OwnB _ _ _ _; rw [G0.out]; exact O
  clear O G0
  go_wp2
  go_loopg [3, 5, 9] n (fun gg s3 _ s9 wr => ∃ (k : Nat) (sv : Value), k ≤ n ∧ n - k ≤ gg ∧ s9 = .int .i64 k ∧ sv = s3 ∧ Aside (OwnB w wr sv (G k)))
  case atStart => exact ⟨0, _, Nat.zero_le _, by omega, rfl, rfl, O2.out⟩
  case round =>
    obtain ⟨k, s3, hk, hgg, rfl, rfl, OO⟩ := hrel
    have O1 : Hid (OwnB w wr s3 (G k)) := OO.out
    clear OO O2
    by_cases hlt : k < n
    · have hltz : (k : Int) < (n : Int) := by omega
      obtain rfl := h4 (by omega)
      obtain ⟨⟨xa, xc, xl⟩, hx1, hx2, hx3, hx4⟩ := HC.out k hlt
      have gl := GL.out k hk
      simp only [Wd.v] at hx1 hx3 hx4
      have e1 := O1.out.1.cell hx1
      have XB : Hid (Bits w ⟨xa, xc, xl⟩) := hx2
      have GX : Hid (G (k + 1) = G k ++ sf 0 xl ++ fl) := by show _ = _; rw [hx4, List.append_assoc]
      have c1 := refStuffed_any ⟨xa, xc, xl⟩ (by show xl.length ≤ _; omega) wr (XB.out.ext O1.out.1)
      simp only [Wd.v] at c1
      have slen := sf_len xl 0
      clear hx1 hx2 hx4 HC GL GN
      go_wp2_with fail
      refine c1.mono ?_
      rintro e w3 ⟨v3, rfl, P3⟩
      obtain ⟨y3, rfl, l3, b3⟩ := P3.bits
      have B3 : Hid (Bits w3 y3) := b3
      have O3 : Hid (OwnB w w3 s3 (G k)) := O1.out.ext P3.1
      have L3 : Hid (y3.l = sf 0 xl) := l3
      have hfl : Hid ((G k).length + y3.l.length ≤ 140737488355328) := by show _ ≤ _; rw [l3]; omega
      clear c1 P3 O1 b3 l3 XB
      go_wp2_with (at_builtin; refine wpList_appendBits rfl _ _ rfl w _ s3 (by rfl) (G k) O3.out y3 (by rfl) B3.out hfl.out ?_; intro v4 w4 O4)
      have O4' : Hid (OwnB w w4 v4 (G k ++ sf 0 xl)) := by show OwnB _ _ _ _; rw [← L3.out]; exact O4
      clear O4 O3
      refine (refFlag_any w4).mono ?_
      rintro e w5 ⟨v5, rfl, P5⟩
      obtain ⟨y5, rfl, l5, b5⟩ := P5.bits
      have B5 : Hid (Bits w5 y5) := b5
      have O5 : Hid (OwnB w w5 v4 (G k ++ sf 0 xl)) := O4'.out.ext P5.1
      have L5 : Hid (y5.l = fl) := l5
      have hfl2 : Hid ((G k ++ sf 0 xl).length + y5.l.length ≤ 140737488355328) := by
        show _ ≤ _
        have e8 : fl.length = 8 := rfl
        rw [l5, List.length_append]; omega
      clear P5 O4' b5 l5
      go_wp2_with (at_builtin; refine wpList_appendBits rfl _ _ rfl w _ v4 (by rfl) (G k ++ sf 0 xl) O5.out y5 (by rfl) B5.out hfl2.out ?_; intro v6 w6 O6)
      have O6' : Hid (OwnB w w6 v6 (G (k + 1))) := by show OwnB _ _ _ _; rw [GX.out, ← L5.out]; exact O6
      clear O6 O5
      go_wp2
      go_roundg (n - (k + 1))
      case measure => omega
      case rel => exact ⟨k + 1, v6, by omega, by omega, by go_num, rfl, O6'.out⟩
    · obtain rfl : k = n := by omega
      have O2 : Hid (OwnB w wr s3 T) := by rw [← GN.out]; exact O1.out
      clear O1 HC GL GN
      go_wp2
      go_ret
      exact ⟨s3, rfl, O2.out⟩
end Go.Proofs.Ytglajpmifhecgaa
