/-
  alpha.join, walked.
-/
import Derived.Test.YtakggfogoobdnaaJn
namespace Go.Proofs.Ytakggfogoobdnaa
open Go.RowKit

/-- What is known of the values of join's first region. -/
def JR (w : World) (p q : List Nat) : Nat → Value → World → Prop
  | 3, x, W => ∃ (l : List Nat) (g c : Nat), x = .agg #[.int .i64 (dot p l : Nat), .slice (some ⟨g, 0, none⟩) p.length c] ∧ OwnN w W (.slice (some ⟨g, 0, none⟩) p.length c) (lz l) ∧ Opt p l
  | 7, x, W => ∃ (l : List Nat) (g c : Nat), x = .agg #[.int .i64 (dot q l : Nat), .slice (some ⟨g, 0, none⟩) q.length c] ∧ OwnN w W (.slice (some ⟨g, 0, none⟩) q.length c) (lz l) ∧ Opt q l
  | 8, x, W => ∃ B, x = .pointer (some ⟨B, 0, none⟩) ∧ w.heap.size ≤ B ∧ Plan W B 0 (.slice none 0 0)
  | 9, x, W => ∃ B, x = .pointer (some ⟨B, 0, none⟩) ∧ w.heap.size ≤ B ∧ Plan W B 0 (.slice none 0 0)
  | _, _, _ => True

theorem JR.mono (w : World) (p q : List Nat) (i : Nat) (x : Value) (W W' : World) (h : JR w p q i x W) (e : Ext W W') : JR w p q i x W' := by
  unfold JR at *
  split at h
  · obtain ⟨l, g, c, h1, h2, h3⟩ := h; exact ⟨l, g, c, h1, h2.ext e, h3⟩
  · obtain ⟨l, g, c, h1, h2, h3⟩ := h; exact ⟨l, g, c, h1, h2.ext e, h3⟩
  · obtain ⟨B, h1, h2, h3⟩ := h; exact ⟨B, h1, h2, h3.ext e⟩
  · obtain ⟨B, h1, h2, h3⟩ := h; exact ⟨B, h1, h2, h3.ext e⟩
  · trivial

/-- Where the values of join's first region lie. -/
def jD : Nat → Nat
  | 3 => 13
  | 7 => 17
  | 8 => 5
  | _ => 6
def jA : Nat → Bool
  | 8 => true
  | 9 => true
  | _ => false

/-- What is known of the values of join's second region. -/
def JS (w : World) (S : Nat) (x y : Value) (n : Nat) (C : Int) (z : List Int) : Nat → Value → World → Prop
  | 9, p, W => ∃ B, p = .slice (some ⟨B, 0, none⟩) 2 2 ∧ W.cell? ⟨B, 0, none⟩ = some x ∧ W.cell? ⟨B, 1, none⟩ = some y
  | 10, p, W => ∃ g c, p = .slice (some ⟨g, 0, none⟩) n c ∧ OwnN w W (.slice (some ⟨g, 0, none⟩) n c) z
  | 11, p, W => ∃ g c, p = .agg #[.int .i64 C, .slice (some ⟨g, 0, none⟩) n c] ∧ OwnN w W (.slice (some ⟨g, 0, none⟩) n c) z
  | 12, p, W => ∃ B, p = .pointer (some ⟨B, 0, none⟩) ∧ S ≤ B ∧ Plan W B 0 (.slice none 0 0)
  | _, _, _ => True

theorem JS.mono (w : World) (S : Nat) (x y : Value) (n : Nat) (C : Int) (z : List Int) (i : Nat) (p : Value) (W W' : World) (h : JS w S x y n C z i p W) (e : Ext W W') : JS w S x y n C z i p W' := by
  unfold JS at *
  split at h
  · obtain ⟨B, h1, h2, h3⟩ := h; exact ⟨B, h1, e.cell h2, e.cell h3⟩
  · obtain ⟨g, c, h1, h2⟩ := h; exact ⟨g, c, h1, h2.ext e⟩
  · obtain ⟨g, c, h1, h2⟩ := h; exact ⟨g, c, h1, h2.ext e⟩
  · obtain ⟨B, h1, h2, h3⟩ := h; exact ⟨B, h1, h2, h3.ext e⟩
  · trivial

def kD : Nat → Nat
  | 9 => 27
  | 10 => 28
  | 11 => 29
  | _ => 7
def kP : Nat → List Nat
  | 10 => [9]
  | 11 => [10]
  | _ => []

theorem take_sum (v : List Nat) (k : Nat) (hk : k < v.length) : (v.take (k + 1)).sum = (v.take k).sum + v.getD k 0 := by
  rw [List.take_succ_eq_append_getElem hk, List.sum_append, List.getD_eq_getElem?_getD, List.getElem?_eq_getElem hk]
  simp only [List.sum_cons, List.sum_nil, Option.getD_some, Nat.add_zero]

set_option maxHeartbeats 4000000 in
theorem join_of {k : Nat} (hB : BestC k) : JoinC (k + 1) := by
  intro x v w s hx hxv hs hsn hk h8 hw
  obtain ⟨xa, xc, xz⟩ := x
  simp only [Nm.v] at *
  subst hxv
  have hx' := hx
  obtain ⟨q1, q2, _, qb, qo, q4, _⟩ := hx'
  simp only at q1 q2 q4
  rw [lz_length] at q1 q4 ⊢
  obtain rfl := q4 (by omega)
  have HP : Hid (∀ W, Ext w W → Calls Try.prog 24 #[.slice (some ⟨qb, qo, none⟩) s xc] W fun e w' => ∃ (l : List Nat) (g c : Nat), e = .returned (.agg #[.int .i64 (dot (v.take s) l : Nat), .slice (some ⟨g, 0, none⟩) (v.take s).length c]) ∧ OwnN W w' (.slice (some ⟨g, 0, none⟩) (v.take s).length c) (lz l) ∧ Opt (v.take s) l) := by
    intro W e
    have := hB ⟨some ⟨qb, qo, none⟩, xc, lz (v.take s)⟩ (v.take s) W (by rw [lz_take]; exact (hx.ext e).take (by rw [lz_length]; omega)) rfl (by simp; omega) (by simp; omega) (fun u hu => hw u (List.mem_of_mem_take hu))
    simp only [Nm.v, lz_length] at this
    rw [show (v.take s).length = s by simp; omega] at this ⊢
    exact this
  have HQ : Hid (∀ W, Ext w W → Calls Try.prog 24 #[.slice (some ⟨qb, qo + s, none⟩) ((v.length - s : Nat) : Nat) (xc - s)] W fun e w' => ∃ (l : List Nat) (g c : Nat), e = .returned (.agg #[.int .i64 (dot (v.drop s) l : Nat), .slice (some ⟨g, 0, none⟩) (v.drop s).length c]) ∧ OwnN W w' (.slice (some ⟨g, 0, none⟩) (v.drop s).length c) (lz l) ∧ Opt (v.drop s) l) := by
    intro W e
    have := hB ⟨some ⟨qb, qo + s, none⟩, xc - s, lz (v.drop s)⟩ (v.drop s) W (by rw [lz_drop]; exact (hx.ext e).drop (by rw [lz_length]; omega)) rfl (by simp; omega) (by simp; omega) (fun u hu => hw u (List.mem_of_mem_drop hu))
    simp only [Nm.v, lz_length] at this
    rw [show (v.drop s).length = v.length - s by simp] at this ⊢
    exact this
  have HX : Hid (Nums w ⟨some ⟨qb, qo, none⟩, xc, lz v⟩) := hx
  have HW : Hid (∀ u ∈ v, u ≤ 1048576) := hw
  have HV : Hid ((v.take s).length = s ∧ (v.drop s).length = v.length - s) := ⟨by simp; omega, by simp⟩
  unfold maxLen at q2
  clear hx hw hB
  obtain ⟨n, hn⟩ : ∃ n, v.length = n := ⟨_, rfl⟩
  have HN : Hid (v.length = n) := hn
  rw [hn] at q1 hsn hk h8 HQ HV ⊢
  clear hn q4
  have hsz : (s : Int) ≤ (n : Int) := by omega
  have hsz2 : (s : Int) ≤ (xc : Int) := by omega
  have hs0 : (0 : Int) ≤ (s : Int) := by omega
  have hne : ¬ (xc = s) := by omega
  go_enter Try.func35, Try.ntmps35
  go_wp2
  obtain ⟨w1, hw1⟩ : ∃ w1, w1 = w.alloc (.cells #[.int .i64 0, .slice none 0 0] 47) := ⟨_, rfl⟩
  have E1 : Hid (Ext w w1) := by rw [hw1]; exact (Ext.refl w).alloc _
  have R1 : Hid (Plan w1 w.heap.size 0 (.slice none 0 0)) := by rw [hw1]; exact Plan.new w
  rw [← hw1]
  clear hw1
  refine wp_region_mix (Ext w1) 12 (by rfl) (by kernel_rfl) ?_
  refine wpMix_take (v := .slice (some ⟨qb, qo, none⟩) n xc) 0 (by rfl) (by kernel_rfl) ⟨by rfl, ?_⟩ ?_
  · intro W hW
    go_simp
  refine wpMix_take (v := .int .i64 s) 1 (by rfl) (by kernel_rfl) ⟨by rfl, ?_⟩ ?_
  · intro W hW
    go_simp
  refine wpMix_take (v := .slice (some ⟨qb, qo, none⟩) s xc) 2 (by rfl) (by kernel_rfl) ⟨by rfl, ?_⟩ ?_
  · intro W hW
    go_simp
  refine wpMix_take (v := .slice (some ⟨qb, qo, none⟩) n xc) 4 (by rfl) (by kernel_rfl) ⟨by rfl, ?_⟩ ?_
  · intro W hW
    go_simp
  refine wpMix_take (v := .int .i64 s) 5 (by rfl) (by kernel_rfl) ⟨by rfl, ?_⟩ ?_
  · intro W hW
    go_simp
  refine wpMix_take (v := .slice (some ⟨qb, qo + s, none⟩) (n - s : Nat) (xc - s)) 6 (by rfl) (by kernel_rfl) ⟨by rfl, ?_⟩ ?_
  · intro W hW
    go_simp
  have E1d : Hid (Ext w1 w1.drew) := ext_drew w1
  generalize w1.drew = w2 at *
  simp only [Act.put, List.setIfInBounds_toArray, List.set_cons_zero, List.set_cons_succ]
  refine wpMix_louds w1 jD (JR w1 (v.take s) (v.drop s)) (fun _ => []) jA [3, 7, 8, 9] #[true, true, true, true, true, true, true, true, true, true, false, false] 2 4 (by rfl) (by kernel_rfl) E1d.out (JR.mono _ _ _) ?_ ?_
  · intro i hi
    simp only [List.mem_cons, List.not_mem_nil, or_false] at hi
    rcases hi with rfl | rfl | rfl | rfl
    · refine Lo.call 24 (by rfl) (by rfl) (by rfl) (fun _ => by rfl) (fun u W hW _ => ⟨#[.slice (some ⟨qb, qo, none⟩) s xc], (by go_simp; rfl), ?_⟩)
      refine (HP.out W (E1.out.trans hW)).mono ?_
      rintro e w' ⟨l, g, c, rfl, h1, h2⟩
      exact ⟨_, rfl, ⟨l, g, c, rfl, h1.base hW, h2⟩, h1.1⟩
    · refine Lo.call 24 (by rfl) (by rfl) (by rfl) (fun _ => by rfl) (fun u W hW _ => ⟨#[.slice (some ⟨qb, qo + s, none⟩) (n - s : Nat) (xc - s)], (by go_simp; rfl), ?_⟩)
      refine (HQ.out W (E1.out.trans hW)).mono ?_
      rintro e w' ⟨l, g, c, rfl, h1, h2⟩
      exact ⟨_, rfl, ⟨l, g, c, rfl, h1.base hW, h2⟩, h1.1⟩
    · refine Lo.value (by rfl) (by rfl) (fun _ => by rfl) (fun u W hW _ => ⟨.pointer (some ⟨W.heap.size, 0, none⟩), W.alloc (.cells #[.int .i64 0, .slice none 0 0] 47), by go_simp, ?_, (Ext.refl W).alloc _, fun _ => ⟨_, rfl, Nat.le_refl _, by simp⟩⟩)
      exact ⟨_, rfl, hW.size, Plan.new W⟩
    · refine Lo.value (by rfl) (by rfl) (fun _ => by rfl) (fun u W hW _ => ⟨.pointer (some ⟨W.heap.size, 0, none⟩), W.alloc (.cells #[.int .i64 0, .slice none 0 0] 47), by go_simp, ?_, (Ext.refl W).alloc _, fun _ => ⟨_, rfl, Nat.le_refl _, by simp⟩⟩)
      exact ⟨_, rfl, hW.size, Plan.new W⟩
  intro vv W3 hE3 hR hdis
  obtain ⟨la, ga, ca, ha, HA, hoa⟩ := hR 3 (by simp)
  obtain ⟨lb, gb, cb, hb, HB, hob⟩ := hR 7 (by simp)
  obtain ⟨B8, h8', h8s, h8p⟩ := hR 8 (by simp)
  obtain ⟨B9, h9', h9s, h9p⟩ := hR 9 (by simp)
  have hne : B8 ≠ B9 := by
    have := hdis 8 (by simp) 9 (by simp) rfl rfl (by decide)
    rw [h8', h9'] at this
    rintro rfl
    exact this rfl
  simp only [puts, jD, ha, hb, h8', h9', Act.put, List.setIfInBounds_toArray, List.set_cons_zero, List.set_cons_succ]
  clear hdis hR ha hb h8' h9' vv
  obtain ⟨hv1, hv2⟩ := HV.out
  rw [hv1] at HA ⊢
  rw [hv2] at HB ⊢
  obtain ⟨CA, hCA⟩ : ∃ CA, dot (v.take s) la = CA := ⟨_, rfl⟩
  obtain ⟨CB, hCB⟩ : ∃ CB, dot (v.drop s) lb = CB := ⟨_, rfl⟩
  have bA : CA ≤ 67108864 := by
    have := dot_le (v.take s) la 1048576 (fun u hu => HW.out u (List.mem_of_mem_take hu)) (fun d hd => by have := hoa.1.le d hd; omega)
    rw [hCA, hv1] at this
    have h2 : s * (1048576 * 8) ≤ 8 * (1048576 * 8) := Nat.mul_le_mul_right _ (by omega)
    omega
  have bB : CB ≤ 67108864 := by
    have := dot_le (v.drop s) lb 1048576 (fun u hu => HW.out u (List.mem_of_mem_drop hu)) (fun d hd => by have := hob.1.le d hd; omega)
    rw [hCB, hv2] at this
    have h2 : (n - s) * (1048576 * 8) ≤ 8 * (1048576 * 8) := Nat.mul_le_mul_right _ (by omega)
    omega
  have HCA : Hid (dot (v.take s) la = CA) := hCA
  have HCB : Hid (dot (v.drop s) lb = CB) := hCB
  have HOA : Hid (Opt (v.take s) la) := hoa
  have HOB : Hid (Opt (v.drop s) lb) := hob
  have hla : (lz la).length = s := by rw [lz_length, hoa.1.1, hv1]
  have hlb : (lz lb).length = n - s := by rw [lz_length, hob.1.1, hv2]
  rw [hCA, hCB]
  clear hCA hCB hv1 hv2 hoa hob HP HQ HV
  refine wpMix_only 10 (by kernel_rfl) hE3 ?_
  refine mOp_skip (by rfl) (by rfl) (storeP _ _ (.tmp 5) (.tmp 13) (by rfl) W3 B8 (by rfl) (CA : Int) (.slice (some ⟨ga, 0, none⟩) s ca) ⟨_, _, _, rfl⟩ (by rfl) _ _ h8p.c0 h8p.c1 h8p.fr) ?_
  have F4 : Hid (Plan ((W3.setCell ⟨B8, 0, none⟩ (.int .i64 (CA : Int))).setCell ⟨B8, 1, none⟩ (.slice (some ⟨ga, 0, none⟩) s ca)) B8 (CA : Int) (.slice (some ⟨ga, 0, none⟩) s ca) ∧
      Plan ((W3.setCell ⟨B8, 0, none⟩ (.int .i64 (CA : Int))).setCell ⟨B8, 1, none⟩ (.slice (some ⟨ga, 0, none⟩) s ca)) B9 0 (.slice none 0 0) ∧
      OwnN w1 ((W3.setCell ⟨B8, 0, none⟩ (.int .i64 (CA : Int))).setCell ⟨B8, 1, none⟩ (.slice (some ⟨ga, 0, none⟩) s ca)) (.slice (some ⟨ga, 0, none⟩) s ca) (lz la) ∧
      OwnN w1 ((W3.setCell ⟨B8, 0, none⟩ (.int .i64 (CA : Int))).setCell ⟨B8, 1, none⟩ (.slice (some ⟨ga, 0, none⟩) s ca)) (.slice (some ⟨gb, 0, none⟩) (n - s : Nat) cb) (lz lb)) :=
    ⟨h8p.put _ _, (h9p.other hne _).other hne _, ownN_plan (ownN_plan HA h8p h8s) (h8p.put0 _) h8s, ownN_plan (ownN_plan HB h8p h8s) (h8p.put0 _) h8s⟩
  generalize (W3.setCell ⟨B8, 0, none⟩ (.int .i64 (CA : Int))).setCell ⟨B8, 1, none⟩ (.slice (some ⟨ga, 0, none⟩) s ca) = W4 at F4 ⊢
  obtain ⟨p8, p9, oa, ob⟩ := F4.out
  clear F4 HA HB h8p h9p hE3
  have F5 : Hid (Plan ((W4.setCell ⟨B9, 0, none⟩ (.int .i64 (CB : Int))).setCell ⟨B9, 1, none⟩ (.slice (some ⟨gb, 0, none⟩) (n - s : Nat) cb)) B8 (CA : Int) (.slice (some ⟨ga, 0, none⟩) s ca) ∧
      Plan ((W4.setCell ⟨B9, 0, none⟩ (.int .i64 (CB : Int))).setCell ⟨B9, 1, none⟩ (.slice (some ⟨gb, 0, none⟩) (n - s : Nat) cb)) B9 (CB : Int) (.slice (some ⟨gb, 0, none⟩) (n - s : Nat) cb) ∧
      OwnN w1 ((W4.setCell ⟨B9, 0, none⟩ (.int .i64 (CB : Int))).setCell ⟨B9, 1, none⟩ (.slice (some ⟨gb, 0, none⟩) (n - s : Nat) cb)) (.slice (some ⟨ga, 0, none⟩) s ca) (lz la) ∧
      OwnN w1 ((W4.setCell ⟨B9, 0, none⟩ (.int .i64 (CB : Int))).setCell ⟨B9, 1, none⟩ (.slice (some ⟨gb, 0, none⟩) (n - s : Nat) cb)) (.slice (some ⟨gb, 0, none⟩) (n - s : Nat) cb) (lz lb)) :=
    ⟨(p8.other hne.symm _).other hne.symm _, p9.put _ _, ownN_plan (ownN_plan oa p9 h9s) (p9.put0 _) h9s, ownN_plan (ownN_plan ob p9 h9s) (p9.put0 _) h9s⟩
  refine wpMix_last 11 (by kernel_rfl) (by kernel_rfl) (by rfl) (by rfl) oa.1 (storeP _ _ (.tmp 6) (.tmp 17) (by rfl) W4 B9 (by rfl) (CB : Int) (.slice (some ⟨gb, 0, none⟩) (n - s : Nat) cb) ⟨_, _, _, rfl⟩ (by rfl) _ _ p9.c0 p9.c1 p9.fr) F5.out.2.2.1.1 ?_
  generalize (W4.setCell ⟨B9, 0, none⟩ (.int .i64 (CB : Int))).setCell ⟨B9, 1, none⟩ (.slice (some ⟨gb, 0, none⟩) (n - s : Nat) cb) = W5 at F5 ⊢
  clear p8 p9 oa ob
  simp only [Act.put]
  go_wp2
  have hcs : (s : Int) + ((n - s : Nat) : Int) = (n : Int) := by omega
  have hcab : IntKind.i64.wrap ((CA : Int) + (CB : Int)) = (CA : Int) + (CB : Int) := by rw [IntKind.wrap_i64]; omega
  refine wp_region_mix (Ext W5) 14 (by rfl) (by kernel_rfl) ?_
  refine wpMix_take (v := .pointer (some ⟨B8, 0, none⟩)) 0 (by rfl) (by kernel_rfl) ⟨by rfl, ?_⟩ ?_
  · intro W hW
    go_simp
  refine wpMix_take (v := .int .i64 (CA : Int)) 1 (by rfl) (by kernel_rfl) ⟨by rfl, ?_⟩ ?_
  · intro W hW
    have c1 := (F5.out.1.ext hW).c0
    go_simp
  refine wpMix_take (v := .pointer (some ⟨B9, 0, none⟩)) 2 (by rfl) (by kernel_rfl) ⟨by rfl, ?_⟩ ?_
  · intro W hW
    go_simp
  refine wpMix_take (v := .int .i64 (CB : Int)) 3 (by rfl) (by kernel_rfl) ⟨by rfl, ?_⟩ ?_
  · intro W hW
    have c1 := (F5.out.2.1.ext hW).c0
    go_simp
  refine wpMix_take (v := .int .i64 ((CA : Int) + (CB : Int))) 4 (by rfl) (by kernel_rfl) ⟨by rfl, ?_⟩ ?_
  · intro W hW
    go_simp
  refine wpMix_take (v := .pointer (some ⟨B8, 1, none⟩)) 5 (by rfl) (by kernel_rfl) ⟨by rfl, ?_⟩ ?_
  · intro W hW
    go_simp
  refine wpMix_take (v := .slice (some ⟨ga, 0, none⟩) s ca) 6 (by rfl) (by kernel_rfl) ⟨by rfl, ?_⟩ ?_
  · intro W hW
    have c1 := (F5.out.1.ext hW).c1
    go_simp
  refine wpMix_take (v := .pointer (some ⟨B9, 1, none⟩)) 7 (by rfl) (by kernel_rfl) ⟨by rfl, ?_⟩ ?_
  · intro W hW
    go_simp
  refine wpMix_take (v := .slice (some ⟨gb, 0, none⟩) (n - s : Nat) cb) 8 (by rfl) (by kernel_rfl) ⟨by rfl, ?_⟩ ?_
  · intro W hW
    have c1 := (F5.out.2.1.ext hW).c1
    go_simp
  have E5d : Hid (Ext W5 W5.drew) := ext_drew W5
  generalize W5.drew = W6 at *
  simp only [Act.put, List.setIfInBounds_toArray, List.set_cons_zero, List.set_cons_succ]
  refine wpMix_louds W5 kD (JS w1 W5.heap.size (.slice (some ⟨ga, 0, none⟩) s ca) (.slice (some ⟨gb, 0, none⟩) (n - s : Nat) cb) n ((CA : Int) + (CB : Int)) (lz (la ++ lb))) kP (fun _ => false) [9, 10, 11, 12] #[true, true, true, true, true, true, true, true, true, true, true, true, true, false] 1 4 (by rfl) (by kernel_rfl) E5d.out (JS.mono _ _ _ _ _ _ _) ?_ ?_
  · intro i hi
    simp only [List.mem_cons, List.not_mem_nil, or_false] at hi
    rcases hi with rfl | rfl | rfl | rfl
    · refine Lo.value (by rfl) (by rfl) (fun _ => by rfl) (fun u W hW _ => ⟨.slice (some ⟨W.heap.size, 0, none⟩) 2 2, W.alloc (.cells #[.slice (some ⟨ga, 0, none⟩) s ca, .slice (some ⟨gb, 0, none⟩) (n - s : Nat) cb] 27), (by simp only [puts, kD, Act.put, List.setIfInBounds_toArray, List.set_cons_zero, List.set_cons_succ]; go_simp), ?_, (Ext.refl W).alloc _, fun h => by cases h⟩)
      have h := heap_alloc_new W (.cells #[.slice (some ⟨ga, 0, none⟩) s ca, .slice (some ⟨gb, 0, none⟩) (n - s : Nat) cb] 27)
      exact ⟨_, rfl, cell_of_row _ _ 0 _ 27 (0, 0) h, cell_of_row _ _ 1 _ 27 (0, 0) h⟩
    · refine Lo.call 46 (by rfl) (by rfl) (by rfl) (fun _ => by rfl) (fun u W hW hd => ?_)
      obtain ⟨B, hB, hc0, hc1⟩ := hd 9 (by simp [kP])
      refine ⟨#[.slice (some ⟨B, 0, none⟩) 2 2], (by simp only [puts, kD, hB, Act.put, List.setIfInBounds_toArray, List.set_cons_zero, List.set_cons_succ]; go_simp), ?_⟩
      obtain ⟨ya, hya, hza, hna⟩ := (F5.out.2.2.1.ext hW).nums
      obtain ⟨yb, hyb, hzb, hnb⟩ := (F5.out.2.2.2.ext hW).nums
      rw [hya] at hc0
      rw [hyb] at hc1
      refine (concat_any ya yb B W hna hnb hc0 hc1 (by rw [hza, hla]; exact hs) (by rw [hza, hzb, hla, hlb]; omega)).mono ?_
      rintro e w' ⟨p, rfl, hp⟩
      rw [hza, hzb, ← lz_append] at hp
      have hl : (lz (la ++ lb)).length = n := by rw [lz_append, List.length_append, hla, hlb]; omega
      obtain ⟨g, c, rfl⟩ := hp.some (by rw [hl]; omega)
      rw [hl] at hp ⊢
      exact ⟨_, rfl, ⟨g, c, rfl, hp.base (F5.out.2.2.1.1.trans hW)⟩, hp.1⟩
    · refine Lo.value (by rfl) (by rfl) (fun _ => by rfl) (fun u W hW hd => ?_)
      obtain ⟨g, c, hg, hown⟩ := hd 10 (by simp [kP])
      exact ⟨.agg #[.int .i64 ((CA : Int) + (CB : Int)), .slice (some ⟨g, 0, none⟩) n c], W, (by simp only [puts, kD, hg, Act.put, List.setIfInBounds_toArray, List.set_cons_zero, List.set_cons_succ]; go_simp), ⟨g, c, rfl, hown⟩, Ext.refl W, fun h => by cases h⟩
    · refine Lo.value (by rfl) (by rfl) (fun _ => by rfl) (fun u W hW _ => ⟨.pointer (some ⟨W.heap.size, 0, none⟩), W.alloc (.cells #[.int .i64 0, .slice none 0 0] 47), by go_simp, ?_, (Ext.refl W).alloc _, fun h => by cases h⟩)
      exact ⟨_, rfl, hW.size, Plan.new W⟩
  intro vv W7 hE7 hR hdis
  obtain ⟨g, c, hg, hown⟩ := hR 11 (by simp)
  obtain ⟨J, hJ, hJs, hJp⟩ := hR 12 (by simp)
  simp only [puts, kD, hg, hJ, Act.put, List.setIfInBounds_toArray, List.set_cons_zero, List.set_cons_succ]
  clear hR hg hJ hdis
  generalize vv 9 = v9
  generalize vv 10 = v10
  clear vv
  have hJw : w1.heap.size ≤ J := Nat.le_trans F5.out.2.2.1.1.size hJs
  have F8 : Hid (Plan ((W7.setCell ⟨J, 0, none⟩ (.int .i64 ((CA : Int) + (CB : Int)))).setCell ⟨J, 1, none⟩ (.slice (some ⟨g, 0, none⟩) n c)) J ((CA : Int) + (CB : Int)) (.slice (some ⟨g, 0, none⟩) n c) ∧
      OwnN w1 ((W7.setCell ⟨J, 0, none⟩ (.int .i64 ((CA : Int) + (CB : Int)))).setCell ⟨J, 1, none⟩ (.slice (some ⟨g, 0, none⟩) n c)) (.slice (some ⟨g, 0, none⟩) n c) (lz (la ++ lb)) ∧
      Ext W5 ((W7.setCell ⟨J, 0, none⟩ (.int .i64 ((CA : Int) + (CB : Int)))).setCell ⟨J, 1, none⟩ (.slice (some ⟨g, 0, none⟩) n c))) :=
    ⟨hJp.put _ _, ownN_plan (ownN_plan hown hJp hJw) (hJp.put0 _) hJw, (hE7.setCell hJs _).setCell hJs _⟩
  refine wpMix_last 13 (by kernel_rfl) (by kernel_rfl) (by rfl) (by rfl) hE7 (storeP _ _ (.tmp 7) (.tmp 29) (by rfl) W7 J (by rfl) ((CA : Int) + (CB : Int)) (.slice (some ⟨g, 0, none⟩) n c) ⟨_, _, _, rfl⟩ (by rfl) _ _ hJp.c0 hJp.c1 hJp.fr) F8.out.2.2 ?_
  generalize ((W7.setCell ⟨J, 0, none⟩ (.int .i64 ((CA : Int) + (CB : Int)))).setCell ⟨J, 1, none⟩ (.slice (some ⟨g, 0, none⟩) n c)) = W8 at F8 ⊢
  clear hown hJp hE7 hcab
  simp only [Act.put]
  have HLL : Hid ((la ++ lb).length = n) := by
    show _ = _
    rw [← lz_length, lz_append, List.length_append, hla, hlb]
    omega
  clear hla hlb F5 E5d E1d
  have S0 : Hid ((∃ C : Nat, C = CA + CB + (v.take 0).sum ∧ Plan W8 J (C : Int) (.slice (some ⟨g, 0, none⟩) n c)) ∧ OwnN w1 W8 (.slice (some ⟨g, 0, none⟩) n c) (lz (upk 0 (la ++ lb)))) :=
    ⟨⟨CA + CB, by simp, by rw [Int.natCast_add]; exact F8.out.1⟩, by rw [upk_zero]; exact F8.out.2.1⟩
  clear F8 hcs hsz hsz2 hs0 hne
  go_wp2
  go_loopg [8, 9, 32] n (fun gg _ _ s32 wr => ∃ k : Nat, k ≤ n ∧ n - k ≤ gg ∧ s32 = .int .i64 k ∧ Aside ((∃ C : Nat, C = CA + CB + (v.take k).sum ∧ Plan wr J (C : Int) (.slice (some ⟨g, 0, none⟩) n c)) ∧ OwnN w1 wr (.slice (some ⟨g, 0, none⟩) n c) (lz (upk k (la ++ lb)))))
  case atStart => exact ⟨0, by omega, by omega, rfl, S0.out⟩
  case round =>
    obtain ⟨k, hk, hgg, rfl, A⟩ := hrel
    obtain ⟨⟨C, hC, hP⟩, hO⟩ := A.out
    have hlen : (lz (upk k (la ++ lb))).length = n := by rw [lz_length, upk_length]; exact HLL.out
    by_cases hlt : k < n
    · have hltz : (k : Int) < (n : Int) := by omega
      obtain ⟨_, _, _, b', o', r4, r5⟩ := HX.out
      simp only at r4 r5
      rw [lz_length, HN.out] at r4 r5
      have e0 := r4 (by omega)
      simp only [Option.some.injEq, Addr.mk.injEq, and_true] at e0
      obtain ⟨rfl, rfl⟩ := e0
      have e1 := (E1.out.trans hO.1).cell (r5 k hlt)
      rw [lz_z] at e1
      obtain ⟨u, hu⟩ : ∃ u, v.getD k 0 = u := ⟨_, rfl⟩
      rw [hu] at e1
      have hkv : k < v.length := by rw [HN.out]; exact hlt
      have hu8 : u ≤ 1048576 := by
        rw [← hu, List.getD_eq_getElem?_getD, List.getElem?_eq_getElem hkv]
        exact HW.out _ (List.getElem_mem hkv)
      have hsum := take_sum v k hkv
      rw [hu] at hsum
      have hCb : C ≤ 200000000 := by
        have := sum_le (v.take k) 1048576 (fun u hu => HW.out u (List.mem_of_mem_take hu))
        have h2 : (v.take k).length * 1048576 ≤ 8 * 1048576 := Nat.mul_le_mul_right _ (by simp; omega)
        omega
      obtain ⟨d, hd⟩ : ∃ d, (la ++ lb).getD k 0 = d := ⟨_, rfl⟩
      have hkl : k < (la ++ lb).length := by rw [HLL.out]; exact hlt
      have m0 := ownN_at hO hlen k hlt
      rw [lz_z, upk_get k _ hkl, hd] at m0
      have hd8 : d ≤ 8 := by
        rw [← hd, List.getD_eq_getElem?_getD, List.getElem?_eq_getElem hkl]
        have : (la ++ lb)[k] ∈ la ++ lb := List.getElem_mem hkl
        rcases List.mem_append.1 this with h | h
        · have := HOA.out.1.le _ h
          have hvn := HN.out
          simp only [List.length_take] at this
          simp only [Option.getD_some]; omega
        · have := HOB.out.1.le _ h
          have hvn := HN.out
          simp only [List.length_drop] at this
          simp only [Option.getD_some]; omega
      have k0 := hP.c0
      have kf := hP.fr
      have hgJ := ownN_ne_row hO hP (by decide)
      have hP1 := hP.put0 ((C : Int) + (u : Int))
      have hO1 := ownN_plan (i := 0) (u := .int .i64 ((C : Int) + (u : Int))) hO hP hJw
      have k1 := hP1.c1
      have m1 := ownN_at hO1 hlen k hlt
      rw [lz_z, upk_get k _ hkl, hd] at m1
      obtain ⟨m1, mf⟩ := m1
      have hO2 := ownN_set hO1 hlen k ((d : Int) + 1)
      have hP2 := hP1.other (i := k) hgJ (.int .i64 ((d : Int) + 1))
      have NX : Hid ((∃ C' : Nat, C' = CA + CB + (v.take (k + 1)).sum ∧ Plan ((wr.setCell ⟨J, 0, none⟩ (.int .i64 ((C : Int) + (u : Int)))).setCell ⟨g, k, none⟩ (.int .i64 ((d : Int) + 1))) J (C' : Int) (.slice (some ⟨g, 0, none⟩) n c)) ∧ OwnN w1 ((wr.setCell ⟨J, 0, none⟩ (.int .i64 ((C : Int) + (u : Int)))).setCell ⟨g, k, none⟩ (.int .i64 ((d : Int) + 1))) (.slice (some ⟨g, 0, none⟩) n c) (lz (upk (k + 1) (la ++ lb)))) := by
        refine ⟨⟨C + u, by omega, by rw [Int.natCast_add]; exact hP2⟩, ?_⟩
        have e : lz (upk (k + 1) (la ++ lb)) = (lz (upk k (la ++ lb))).set k ((d : Int) + 1) := by
          rw [← upk_succ k _ hkl, hd]
          simp [lz, List.map_set]
        rw [e]
        exact hO2
      clear A hC hP hO hlen r4 r5 hu hsum hd m0 hP1 hO1 hO2 hP2 hkl hkv HX
      go_wp2
      go_roundg (n - (k + 1))
      case measure => omega
      case rel => exact ⟨k + 1, by omega, by omega, by go_num, NX.out⟩
    · have hkn : k = n := by omega
      subst hkn
      have hCC : (C : Int) = ((dot v (up1 (la ++ lb)) : Nat) : Int) := by
        rw [split_cost HOA.out HOB.out, HCA.out, HCB.out, hC, List.take_of_length_le (by rw [HN.out]; exact Nat.le_refl _)]
      rw [hCC] at hP
      have hul : upk k (la ++ lb) = up1 (la ++ lb) := by
        have := upk_all (la ++ lb)
        rwa [HLL.out] at this
      rw [hul] at hO
      obtain ⟨Z, hZ⟩ : ∃ Z, dot v (up1 (la ++ lb)) = Z := ⟨_, rfl⟩
      have HZ : Hid (dot v (up1 (la ++ lb)) = Z) := hZ
      rw [hZ] at hP
      clear hZ
      have k0 := hP.c0
      have k1 := hP.c1
      have rp := R1.out.ext hO.1
      have r0 := rp.c0
      have r1 := rp.c1
      have rf := rp.fr
      have rl : w.heap.size < w1.heap.size := Row.lt R1.out
      have hne2 : w.heap.size ≠ J := by omega
      have rp2 := rp.put ((Z : Nat) : Int) (.slice (some ⟨g, 0, none⟩) k c)
      have z0 := rp2.c0
      have z1 := rp2.c1
      have FIN : Hid (OwnN w ((wr.setCell ⟨w.heap.size, 0, none⟩ (.int .i64 ((Z : Nat) : Int))).setCell ⟨w.heap.size, 1, none⟩ (.slice (some ⟨g, 0, none⟩) k c)) (.slice (some ⟨g, 0, none⟩) k c) (lz (up1 (la ++ lb)))) :=
        ownN_plan (ownN_plan (hO.base E1.out) rp (Nat.le_refl _)) (rp.put0 _) (Nat.le_refl _)
      clear A hC hP hO hlen hCC hul rp rp2 HX HW
      go_wp2
      refine bodyPost_ret (by simp [results, Try.results35, go_sem, z0, z1]; rfl) rfl ?_
      exact ⟨la, lb, g, c, by rw [HZ.out], FIN.out, HOA.out, HOB.out⟩

end Go.Proofs.Ytakggfogoobdnaa
