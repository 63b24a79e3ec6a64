/-
  quipuref.Less, quipuref.Alpha: the first of all trees that cost least.
-/
import Derived.Test.YtakggfogoobdnaaTre3
import Derived.Test.YtakggfogoobdnaaCs2
namespace Go.Proofs.Ytakggfogoobdnaa
open Go.RowKit

set_option maxHeartbeats 2000000 in
theorem less_any (x y : Nm) (a b : List Nat) (w : World) (hx : Nums w x) (hy : Nums w y) (hxa : x.z = lz a) (hyb : y.z = lz b) (hl : a.length = b.length) :
    Calls Try.prog 26 #[x.v, y.v] w fun e w' => e = .returned (.bool (ll a b)) ∧ Qt w w' := by
  obtain ⟨xa, xc, xz⟩ := x
  obtain ⟨ya, yc, yz⟩ := y
  simp only at hxa hyb
  subst hxa
  subst hyb
  obtain ⟨p1, p2, _, pb, po, p4, p5⟩ := hx
  obtain ⟨q1, q2, _, qb, qo, q4, q5⟩ := hy
  simp only [Nm.v] at *
  have ex : (lz a).length = a.length := by simp [lz]
  have ey : (lz b).length = a.length := by simp [lz, hl]
  rw [ex] at p1 p4 p5 ⊢
  rw [ey] at q1 q4 q5 ⊢
  unfold maxLen at p2 q2
  obtain ⟨n, hn⟩ : ∃ n, a.length = n := ⟨_, rfl⟩
  rw [hn] at p1 p4 p5 q1 q4 q5 ⊢
  have P5 : Hid (∀ i, i < n → w.cell? ⟨pb, po + i, none⟩ = some (.int .i64 ((lz a).getD i 0))) := p5
  have Q5 : Hid (∀ i, i < n → w.cell? ⟨qb, qo + i, none⟩ = some (.int .i64 ((lz b).getD i 0))) := q5
  have HA : Hid (a.length = n) := hn
  have HB : Hid (b.length = n) := by show _ = _; rw [← hl]; exact hn
  obtain ⟨r, hr⟩ : ∃ r, ll a b = r := ⟨_, rfl⟩
  have HR : Hid (ll (a.drop 0) (b.drop 0) = r) := hr
  rw [hr]
  clear ex ey p5 q5 hn hl hr
  go_enter Try.func26, Try.ntmps26
  go_wp2
  go_loopg [5] n (fun gg s wr => ∃ k : Nat, k ≤ n ∧ n - k ≤ gg ∧ s = .int .i64 k ∧ Aside (ll (a.drop k) (b.drop k) = r) ∧ Aside (Qt w wr))
  case atStart => exact ⟨0, by omega, by omega, rfl, HR.out, Qt.refl w⟩
  case round =>
    obtain ⟨k, hk, hgg, rfl, A, QW⟩ := hrel
    by_cases hlt : k < n
    · have hltz : (k : Int) < (n : Int) := by omega
      obtain rfl := p4 (by omega)
      obtain rfl := q4 (by omega)
      have e1 := QW.out.cell (P5.out k hlt)
      have e2 := QW.out.cell (Q5.out k hlt)
      rw [lz_z] at e1 e2
      have ha : k < a.length := by rw [HA.out]; exact hlt
      have hb : k < b.length := by rw [HB.out]; exact hlt
      have g1 : a.getD k 0 = a[k] := by simp [List.getD_eq_getElem?_getD, ha]
      have g2 : b.getD k 0 = b[k] := by simp [List.getD_eq_getElem?_getD, hb]
      have hs := A.out
      rw [List.drop_eq_getElem_cons ha, List.drop_eq_getElem_cons hb, ← g1, ← g2, ll_cons] at hs
      clear A g1 g2 ha hb
      generalize a.getD k 0 = u at *
      generalize b.getD k 0 = v at *
      by_cases huv : u = v
      · subst huv
        have HS : Hid (ll (a.drop (k + 1)) (b.drop (k + 1)) = r) := by
          show _ = _
          rw [← hs]; simp
        clear hs
        go_wp2
        go_quiet (fail)
        go_wp2
        go_roundg (n - (k + 1))
        case measure => omega
        case rel => exact ⟨k + 1, by omega, by omega, by go_num, HS.out, QW.out.trans ⟨_, rfl⟩⟩
      · have hne : ((u : Int) != (v : Int)) = true := by simp; omega
        have HS : Hid (decide (u < v) = r) := by
          show _ = _
          have e : (u == v) = false := by simpa using huv
          rw [← hs, e, Bool.false_and, Bool.or_false]
        clear hs huv
        go_wp2
        go_quiet (fail)
        go_wp2
        go_quiet (fail)
        go_wp2
        go_ret
        exact ⟨ret_bool HS.out, (QW.out.drewN _).drewN _⟩
    · have hkn : k = n := by omega
      have hs := A.out
      rw [List.drop_eq_nil_of_le (by rw [HA.out]; omega), List.drop_eq_nil_of_le (by rw [HB.out]; omega), ll_nil] at hs
      have HS : Hid (false = r) := hs
      clear A hs
      subst hkn
      go_wp2
      go_ret
      exact ⟨ret_bool (by rw [← HS.out]), QW.out⟩

theorem cs_dot' : ∀ v l : List Nat, l.length = v.length → ((List.range v.length).map fun i => v.getD i 0 * l.getD i 0).sum = dot v l
  | [], [], _ => rfl
  | [], _ :: _, h => by simp at h
  | _ :: _, [], h => by simp at h
  | u :: v, d :: l, h => by
    have ih := cs_dot' v l (by simpa using h)
    rw [List.length_cons, List.range_succ_eq_map, List.map_cons, List.sum_cons, List.map_map, dot_cons, ← ih]
    rfl
theorem cs_dot {v l : List Nat} (h : l.length = v.length) : cs (wof (lz v)) l v.length = dot v l := by
  rw [← cs_dot' v l h]
  have := wof_nat v
  unfold cs
  show ((List.range v.length).map fun i => wof (lz v) i * l.getD i 0).sum = _
  rw [show wof (lz v) = fun i => v.getD i 0 from this]

theorem tt_any : ∀ n, ∃ l, TT n l
  | 0 => ⟨[], TT.nil⟩
  | 1 => ⟨[0], TT.one⟩
  | n + 2 => by
    obtain ⟨l, hl⟩ := tt_any (n + 1)
    have := TT.one.join hl (by omega) (by omega)
    rw [Nat.add_comm 1] at this
    exact ⟨_, this⟩

/-- The best of those that were looked at. -/
structure Look (wr : World) (v : List Nat) (S : List (List Nat)) (l : List Nat) (y : Nm) : Prop where
  mem : l ∈ S
  z : y.z = lz l
  nums : Nums wr y
  best : ∀ m ∈ S, Le v l m

theorem Look.keep {wr w' : World} {v : List Nat} {S : List (List Nat)} {l t : List Nat} {y : Nm} (h : Look wr v S l y) (e : Ext wr w') (hle : Le v l t) : Look w' v (S ++ [t]) l y := by
  refine ⟨by simp [h.mem], h.z, h.nums.ext e, fun m hm => ?_⟩
  rcases List.mem_append.1 hm with hm | hm
  · exact h.best m hm
  · simp only [List.mem_singleton] at hm
    subst hm
    exact hle
theorem Look.take {wr w' : World} {v : List Nat} {S : List (List Nat)} {l t : List Nat} {y y' : Nm} (h : Look wr v S l y) (hz : y'.z = lz t) (hn : Nums w' y') (hle : Le v t l) : Look w' v (S ++ [t]) t y' := by
  refine ⟨by simp, hz, hn, fun m hm => ?_⟩
  rcases List.mem_append.1 hm with hm | hm
  · exact hle.trans (h.best m hm)
  · simp only [List.mem_singleton] at hm
    subst hm
    exact Le.refl _ _

set_option maxHeartbeats 4000000 in
theorem alpha_any (x : Nm) (v : List Nat) (w : World) (hx : Nums w x) (hxv : x.z = lz v) (hok : werl x.z = 0) :
    Calls Try.prog 11 #[x.v] w fun e w' => ∃ (l : List Nat) (y : Nm), e = .returned (.tuple #[.int .i64 (dot v l : Nat), y.v]) ∧ y.z = lz l ∧ Nums w' y ∧ Opt v l ∧ Ext w w' := by
  have h8 : v.length ≤ 8 := by have := (werl_nat hok).1; rw [hxv, lz_length] at this; exact this
  have HC : Hid (∀ W (y : Nm) (l : List Nat), Ext w W → Nums W y → y.z = lz l → TT v.length l → Calls Try.prog 19 #[x.v, y.v] W fun e w' => e = .returned (.int .i64 (dot v l : Nat)) ∧ Ext W w') := by
    intro W y l e hy hyl hl
    have hlv : l.length = x.z.length := by rw [hl.1, hxv, lz_length]
    have := costs_any x y W l (hx.ext e) hok hy hyl (hl.get h8) hlv
    rw [hxv, lz_length, cs_dot hl.1] at this
    exact this.mono fun _ _ h => ⟨h.1, h.2.ext⟩
  have HT : Hid (∀ W, Calls Try.prog 25 #[.int .i64 (v.length : Nat)] W fun e w' => ∃ (u : Value) (T : List (List Nat)), e = .returned u ∧ LT W w' u T ∧ (∀ l, l ∈ T ↔ TT v.length l) ∧ T.length ≤ 16 ^ (v.length - 1)) := fun W => trees_all 8 v.length W h8 h8
  have HL : Hid (∀ W (p q : Nm) (a b : List Nat), Nums W p → Nums W q → p.z = lz a → q.z = lz b → TT v.length a → TT v.length b → Calls Try.prog 26 #[p.v, q.v] W fun e w' => e = .returned (.bool (ll a b)) ∧ Ext W w') := fun W p q a b hp hq h1 h2 ha hb => (less_any p q a b W hp hq h1 h2 (by rw [ha.1, hb.1])).mono fun _ _ h => ⟨h.1, h.2.ext⟩
  have HNE : Hid (∃ l, TT v.length l) := tt_any _
  have HLEN : Hid (∀ l, TT v.length l → l.length = v.length) := fun l h => h.1
  have HOPT : Hid (∀ l, TT v.length l → (∀ m, TT v.length m → Le v l m) → Opt v l) := fun l h1 h2 => ⟨h1, h2⟩
  obtain ⟨xa, xc, xz⟩ := x
  simp only [Nm.v] at *
  subst hxv
  rw [lz_length] at HC ⊢
  obtain ⟨n, hn⟩ : ∃ n, v.length = n := ⟨_, rfl⟩
  rw [hn] at h8 HC HT HL HNE HLEN HOPT ⊢
  clear hn hx hok
  go_enter Try.func11, Try.ntmps11
  go_wp2_with fail
  refine (HT.out w).mono ?_
  rintro e wB ⟨u, T, rfl, hLT, hmT, _⟩
  obtain ⟨a, c, rfl, hc1, hc2⟩ := hLT.form
  have HLT : Hid (LT w wB (.slice a T.length c) T) := hLT
  have HMT : Hid (∀ l, l ∈ T ↔ TT n l) := hmT
  have EB : Hid (Ext w wB) := hLT.1
  unfold maxLen at hc2
  obtain ⟨L, hL⟩ : ∃ L, T.length = L := ⟨_, rfl⟩
  have HTL : Hid (T.length = L) := hL
  have hLp : 0 < L := by
    obtain ⟨l, hl⟩ := HNE.out
    have := List.length_pos_of_mem ((hmT l).2 hl)
    omega
  rw [hL] at hc1 HLT ⊢
  clear hL hLT hmT HT HNE
  go_wp2
  go_loopg [4, 5, 7, 8, 13] L (fun gg s4 s5 _ _ s13 wr => ∃ i : Nat, i ≤ L ∧ L - i ≤ gg ∧ s13 = .int .i64 i ∧ Aside (Ext wB wr) ∧ ((i = 0 ∧ s5 = .int .i64 (-1) ∧ s4 = .slice none 0 0) ∨ (0 < i ∧ ∃ (d : Nat) (ya : Option Addr) (yc : Nat), s5 = .int .i64 (d : Int) ∧ s4 = .slice ya n yc ∧ Aside (∃ l, dot v l = d ∧ Look wr v (T.take i) l ⟨ya, yc, lz l⟩))))
  case atStart => exact ⟨0, by omega, by omega, rfl, Ext.refl wB, .inl ⟨rfl, rfl, rfl⟩⟩
  case round =>
    obtain ⟨i, hi, hgg, rfl, EW, hcase⟩ := hrel
    by_cases hlt : i < L
    · have hltz : (i : Int) < (L : Int) := by omega
      have hiT : i < T.length := by rw [HTL.out]; exact hlt
      obtain ⟨g, p, rfl, hpz, hpr⟩ := HLT.out.read i hiT
      have e1 := (hpr wr ((Seg.refl _ _).ext EW.out)).1
      have HPN : Hid (∀ W, Ext wB W → Nums W p) := fun W hW => (hpr W ((Seg.refl _ _).ext hW)).2
      have htt := (HMT.out T[i]).1 (List.getElem_mem hiT)
      have HTT : Hid (TT n T[i] ∧ T.take (i + 1) = T.take i ++ [T[i]]) := ⟨htt, List.take_succ_eq_append_getElem hiT⟩
      have hcst := HC.out wr p T[i] (EB.out.trans EW.out) ((hpr wr ((Seg.refl _ _).ext EW.out)).2) hpz htt
      have hpl : p.z.length = n := by rw [hpz, lz_length]; exact HLEN.out _ htt
      clear hpr htt
      generalize T[i] = t at *
      obtain ⟨pa, pc, pz⟩ := p
      simp only [Nm.v] at e1 hcst hpz hpl HPN
      subst hpz
      rw [hpl] at e1 hcst
      clear hpl
      obtain ⟨dt, hdt⟩ : ∃ dt, dot v t = dt := ⟨_, rfl⟩
      have HDT : Hid (dot v t = dt) := hdt
      rw [hdt] at hcst
      clear hdt hiT
      go_wp2_with fail
      refine hcst.mono ?_
      rintro e w1 ⟨rfl, hE1⟩
      have E1 : Hid (Ext wB w1) := EW.out.trans hE1
      rcases hcase with ⟨rfl, rfl, rfl⟩ | ⟨hi0, d, ya, yc, rfl, rfl, A⟩
      · have NX : Hid (∃ l, dot v l = dt ∧ Look w1 v (T.take (0 + 1)) l ⟨pa, pc, lz l⟩) := by
          refine ⟨t, HDT.out, ?_, rfl, HPN.out w1 E1.out, ?_⟩
          · rw [HTT.out.2]; simp
          · intro m hm
            rw [HTT.out.2] at hm
            simp at hm
            subst hm
            exact Le.refl _ _
        clear hcst hE1
        go_wp2
        go_roundg (L - (0 + 1))
        case measure => omega
        case rel => exact ⟨0 + 1, by omega, by omega, by go_num, E1.out, .inr ⟨by omega, dt, pa, pc, rfl, rfl, NX.out⟩⟩
      · obtain ⟨l, hdl, hLk⟩ := A.out
        have hdn : ¬ (d : Int) < 0 := by omega
        have HLK : Hid (Look wr v (T.take i) l ⟨ya, yc, lz l⟩) := hLk
        have HDL : Hid (dot v l = d) := hdl
        have HTL2 : Hid (TT n l) := (HMT.out l).1 (List.mem_of_mem_take hLk.mem)
        have HE1 : Hid (Ext wr w1) := hE1
        clear A hLk hdl hcst hE1
        rcases Nat.lt_trichotomy dt d with h | h | h
        · have hz : (dt : Int) < (d : Int) := by omega
          have NX : Hid (∃ l, dot v l = dt ∧ Look w1 v (T.take (i + 1)) l ⟨pa, pc, lz l⟩) := by
            refine ⟨t, HDT.out, ?_⟩
            rw [HTT.out.2]
            exact HLK.out.take rfl (HPN.out w1 E1.out) (.inl (by rw [HDT.out, HDL.out]; exact h))
          go_wp2
          go_roundg (L - (i + 1))
          case measure => omega
          case rel => exact ⟨i + 1, by omega, by omega, by go_num, E1.out, .inr ⟨by omega, dt, pa, pc, rfl, rfl, NX.out⟩⟩
        · subst h
          have hz : ¬ (dt : Int) < (dt : Int) := by omega
          have hls := HL.out w1 ⟨pa, pc, lz t⟩ ⟨ya, yc, lz l⟩ t l (HPN.out w1 E1.out) (HLK.out.nums.ext HE1.out) rfl rfl HTT.out.1 HTL2.out
          simp only [lz_length] at hls
          rw [HLEN.out t HTT.out.1, HLEN.out l HTL2.out] at hls
          cases hb : ll t l with
          | true =>
            rw [hb] at hls
            have NX : Hid (∀ w2, Ext w1 w2 → ∃ l, dot v l = dt ∧ Look w2 v (T.take (i + 1)) l ⟨pa, pc, lz l⟩) := by
              intro w2 e2
              refine ⟨t, HDT.out, ?_⟩
              rw [HTT.out.2]
              exact HLK.out.take rfl (HPN.out w2 (E1.out.trans e2)) (.inr ⟨by rw [HDT.out, HDL.out], ll_asymm hb⟩)
            clear hb
            go_wp2_with fail
            refine hls.mono ?_
            rintro e w2 ⟨rfl, hE2⟩
            have E2 : Hid (Ext wB w2) := E1.out.trans hE2
            have NX2 := NX.out w2 hE2
            have NX3 : Hid (∃ l, dot v l = dt ∧ Look w2 v (T.take (i + 1)) l ⟨pa, pc, lz l⟩) := NX2
            clear NX NX2 hls hE2
            go_wp2
            go_roundg (L - (i + 1))
            case measure => omega
            case rel => exact ⟨i + 1, by omega, by omega, by go_num, E2.out, .inr ⟨by omega, dt, pa, pc, rfl, rfl, NX3.out⟩⟩
          | false =>
            rw [hb] at hls
            have NX : Hid (∀ w2, Ext w1 w2 → ∃ l, dot v l = dt ∧ Look w2 v (T.take (i + 1)) l ⟨ya, yc, lz l⟩) := by
              intro w2 e2
              refine ⟨l, HDL.out, ?_⟩
              rw [HTT.out.2]
              exact HLK.out.keep (HE1.out.trans e2) (.inr ⟨by rw [HDT.out, HDL.out], hb⟩)
            clear hb
            go_wp2_with fail
            refine hls.mono ?_
            rintro e w2 ⟨rfl, hE2⟩
            have E2 : Hid (Ext wB w2) := E1.out.trans hE2
            have NX2 := NX.out w2 hE2
            have NX3 : Hid (∃ l, dot v l = dt ∧ Look w2 v (T.take (i + 1)) l ⟨ya, yc, lz l⟩) := NX2
            clear NX NX2 hls hE2
            go_wp2
            go_roundg (L - (i + 1))
            case measure => omega
            case rel => exact ⟨i + 1, by omega, by omega, by go_num, E2.out, .inr ⟨by omega, dt, ya, yc, rfl, rfl, NX3.out⟩⟩
        · have hz : ¬ (dt : Int) < (d : Int) := by omega
          have hz2 : ((dt : Int) == (d : Int)) = false := by simp; omega
          have NX : Hid (∃ l, dot v l = d ∧ Look w1 v (T.take (i + 1)) l ⟨ya, yc, lz l⟩) := by
            refine ⟨l, HDL.out, ?_⟩
            rw [HTT.out.2]
            exact HLK.out.keep HE1.out (.inl (by rw [HDT.out, HDL.out]; exact h))
          go_wp2
          go_roundg (L - (i + 1))
          case measure => omega
          case rel => exact ⟨i + 1, by omega, by omega, by go_num, E1.out, .inr ⟨by omega, d, ya, yc, rfl, rfl, NX.out⟩⟩
    · have hiL : i = L := by omega
      have hltz : ¬ (i : Int) < (L : Int) := by omega
      rcases hcase with ⟨rfl, _⟩ | ⟨hi0, d, ya, yc, rfl, rfl, A⟩
      · omega
      · have F : Hid (∃ l, dot v l = d ∧ l.length = n ∧ Nums wr ⟨ya, yc, lz l⟩ ∧ Opt v l) := by
          obtain ⟨l, h1, h2⟩ := A.out
          have hT : T.take i = T := List.take_of_length_le (by rw [HTL.out]; omega)
          rw [hT] at h2
          have htt := (HMT.out l).1 h2.mem
          exact ⟨l, h1, HLEN.out l htt, h2.nums, HOPT.out l htt (fun m hm => h2.best m ((HMT.out m).2 hm))⟩
        have FE : Hid (Ext w wr) := EB.out.trans EW.out
        clear A
        go_wp2
        go_ret2
        obtain ⟨l, h1, h2, h3, h4⟩ := F.out
        refine ⟨l, ⟨ya, yc, lz l⟩, ?_, rfl, h3, h4, FE.out⟩
        simp only [lz_length, h1, h2]
        rfl

end Go.Proofs.Ytakggfogoobdnaa
