/-
  What kraft.Make answers of lengths.
-/
import Derived.Test.YtfelbgilhhmbnaaSort2
import Derived.Test.YtfelbgilhhmbnaaDig
namespace Go.Proofs.Ytfelbgilhhmbnaa
open Go.RowKit

theorem info29 : (Try.prog.info? 29).map (fun i => (i.zero, i.size, i.bytes)) = some (some (.slice none 0 0), 1, 24) := by kernel_rfl

/-- A row of slices. -/
def SlRow (w : World) (B n : Nat) (V : Nat → Wd) : Prop := Row w B 29 ((List.range n).map (fun i => (V i).v))

theorem SlRow.apart {w : World} {B n : Nat} {V : Nat → Wd} (h : SlRow w B n V) {p : Addr} {v : Value} (hp : w.cell? p = some v) (hv : ∀ a l c, v ≠ .slice a l c) : p.block ≠ B := by
  intro e
  have hs := World.cell?_spot hp
  obtain ⟨b, o, s⟩ := p
  simp at hs e
  subst hs
  subst e
  rw [cell_of_row w b o _ 29 (0, 0) h] at hp
  simp only [List.getElem?_toArray, List.getElem?_map] at hp
  rcases hr : (List.range n)[o]? with _ | i
  · rw [hr] at hp; simp at hp
  · rw [hr] at hp
    simp only [Option.map_some, Option.some.injEq] at hp
    exact hv _ _ _ hp.symm

theorem cell_other {w : World} {B k : Nat} {u : Value} {p : Addr} (hp : p.block ≠ B) : (w.setCell ⟨B, k, none⟩ u).cell? p = w.cell? p :=
  World.cell?_of_block (w := w) (Below.heap_setCell _ _ _ _ hp)

theorem Bits.stored {w : World} {B n k : Nat} {V : Nat → Wd} {x : Wd} (h : Bits w x) (hr : SlRow w B n V) (u : Value) : Bits (w.setCell ⟨B, k, none⟩ u) x := by
  obtain ⟨h1, h2, h0, b, o, h3, h4⟩ := h
  refine ⟨h1, h2, h0, b, o, h3, fun i hi => ?_⟩
  rw [cell_other (hr.apart (h4 i hi) (by intros; simp))]
  exact h4 i hi

theorem Nums.stored {w : World} {B n k : Nat} {V : Nat → Wd} {x : Nm} (h : Nums w x) (hr : SlRow w B n V) (u : Value) : Nums (w.setCell ⟨B, k, none⟩ u) x := by
  obtain ⟨h1, h2, h0, b, o, h3, h4⟩ := h
  refine ⟨h1, h2, h0, b, o, h3, fun i hi => ?_⟩
  rw [cell_other (hr.apart (h4 i hi) (by intros; simp))]
  exact h4 i hi

theorem Nums.at {w : World} {x : Nm} (h : Nums w x) (i : Nat) (hi : i < x.z.length) : ∃ b o, x.a = some ⟨b, o, none⟩ ∧ w.cell? ⟨b, o + i, none⟩ = some (.int .i64 x.z[i]) := by
  obtain ⟨_, _, _, b, o, h3, h4⟩ := h
  have := h4 i hi
  rw [List.getD_eq_getElem?_getD, List.getElem?_eq_getElem hi] at this
  exact ⟨b, o, h3 (by omega), this⟩

/-- What lies in memory while words are given: the words of the first ones, the others are bare. -/
structure Given (w0 wr : World) (B : Nat) (m : Nat → Nat) (n : Nat) (p : List Nat) (V : Nat → Wd) : Prop where
  ext : Ext w0 wr
  size : w0.heap.size ≤ B
  row : SlRow wr B n V
  bits : ∀ i, i < n → Bits wr (V i)
  words : ∀ i, i < n → (V i).l = if i ∈ p then word m n i else []

theorem Given.next {w0 wr w2 : World} {B n i : Nat} {m : Nat → Nat} {p : List Nat} {V : Nat → Wd} {y : Wd} (h : Given w0 wr B m n p V) (e : Ext wr w2) (hy : Bits w2 y) (hl : y.l = word m n i) (_hi : i < n) :
    Given w0 (w2.setCell ⟨B, i, none⟩ y.v) B m n (p ++ [i]) (fun j => if j = i then y else V j) := by
  have hr2 : SlRow w2 B n V := Row.ext h.row e
  refine ⟨(h.ext.trans e).setCell h.size _, h.size, ?_, ?_, ?_⟩
  · refine Row.setF hr2 _ _ (fun j _ => ?_)
    by_cases hj : j = i
    · simp [hj]
    · simp [hj]
  · intro j hj
    by_cases hji : j = i
    · simp only [if_pos hji]
      exact hy.stored hr2 _
    · simp only [if_neg hji]
      exact ((h.bits j hj).ext e).stored hr2 _
  · intro j hj
    by_cases hji : j = i
    · simp only [if_pos hji]
      rw [hl, hji, if_pos (by simp)]
    · simp only [if_neg hji]
      rw [h.words j hj]
      simp [hji]

theorem Given.code {w0 wr : World} {B n : Nat} {m : Nat → Nat} {p : List Nat} {V : Nat → Wd} (h : Given w0 wr B m n p V) (hn : n ≤ 8) (hp : ∀ i, i < n → i ∈ p) :
    ∃ g : List Wd, g.length = n ∧ g.map (·.l) = (List.range n).map (word m n) ∧ Wds wr (some ⟨B, 0, none⟩) n g := by
  refine ⟨(List.range n).map V, by simp, ?_, ?_⟩
  · rw [List.map_map]
    refine List.map_congr_left (fun i hi => ?_)
    have hi' := List.mem_range.1 hi
    simp only [Function.comp_apply]
    rw [h.words i hi', if_pos (hp i hi')]
  · have hr : Row wr B 29 (((List.range n).map V).map Wd.v) := by
      rw [List.map_map]
      exact h.row
    have := hr.wds (by simp [maxLen]; omega) (fun x hx => by
      obtain ⟨i, hi, rfl⟩ := List.mem_map.1 hx
      exact h.bits i (List.mem_range.1 hi))
    simpa using this

/-- What Make answers is wrong. -/
def mer (z : List Int) : Int := if lerl z = 0 then (if 256 < ksum z then 5 else 0) else lerl z

theorem ksum_tk (z : List Int) : ksum z = tk (ml z) (List.range z.length) := by
  unfold ksum tk
  congr 1
  apply List.ext_getElem
  · simp
  · intro i h1 h2
    simp at h1
    simp [shr, ml, List.getD_eq_getElem?_getD, h1]

theorem fit_of {z : List Int} (h : z.any outB = false) (hk : ksum z ≤ 256) : Fit (ml z) z.length :=
  ⟨fun i hi => (ml_le h i hi).1, by rw [← ksum_tk]; exact hk⟩

theorem ord_take {m : Nat → Nat} {n k : Nat} (hk : k < (ord m n).length) : ord m n = (ord m n).take k ++ (ord m n)[k] :: (ord m n).drop (k + 1) := by
  rw [← List.drop_eq_getElem_cons hk, List.take_append_drop]

theorem ord_length {m : Nat → Nat} {n : Nat} (h : ∀ i, i < n → m i ≤ 8) : (ord m n).length = n := by
  have : (ord m n).Perm (List.range n) := by
    rw [List.perm_ext_iff_of_nodup (nodup_of_sorted (ord_sorted _ _)) List.nodup_range]
    intro a
    rw [mem_ord h, List.mem_range]
  rw [this.length_eq, List.length_range]

set_option maxHeartbeats 2000000 in
theorem make_bad (z : Nm) (w : World) (hz : Nums w z) (hm : mer z.z ≠ 0) :
    Calls Try.prog 18 #[z.v] w fun e w' => e = .returned (.tuple #[.slice none 0 0, .int .i64 (mer z.z)]) ∧ Ext w w' := by
  have h7 := sum_any z w hz
  clear hz
  unfold mer at hm ⊢
  by_cases hl : lerl z.z = 0
  · simp only [if_pos hl] at hm h7 ⊢
    rw [hl] at h7
    clear hl
    have hk : 256 < ksum z.z := by
      by_cases h : 256 < ksum z.z
      · exact h
      · simp [h] at hm
    rw [if_pos hk]
    clear hm
    generalize ksum z.z = K at *
    have hkz : (256 : Int) < (K : Int) := by omega
    simp only [Nm.v] at *
    generalize z.z.length = n at *
    go_enter Try.func18, Try.ntmps18
    go_wp2_with fail
    refine h7.mono ?_
    rintro e w1 ⟨rfl, hb⟩
    go_wp2
    go_ret2
    exact ⟨rfl, hb⟩
  · simp only [if_neg hl] at hm h7 ⊢
    have hne : (lerl z.z != 0) = true := by simpa using hl
    clear hm hl
    generalize lerl z.z = r at *
    simp only [Nm.v] at *
    generalize z.z.length = n at *
    go_enter Try.func18, Try.ntmps18
    go_wp2_with fail
    refine h7.mono ?_
    rintro e w1 ⟨rfl, hb⟩
    go_wp2
    go_ret2
    exact ⟨rfl, hb⟩

/-- A round of Make: which symbol, its length, what follows. -/
theorem make_round {z : List Int} (hok : z.any outB = false) (hk : ksum z ≤ 256) (k : Nat) (hkl : k < (ord (ml z) z.length).length) :
    ∃ i s t : Nat, (ord (ml z) z.length)[k] = i ∧ i < z.length ∧ ml z i = s ∧ s ≤ 8 ∧ z.getD i 0 = (s : Int) ∧ tk (ml z) ((ord (ml z) z.length).take k) = t ∧ t ≤ 256 ∧ shr (s : Int) ≤ 256 ∧
      word (ml z) z.length i = dg (t / 2 ^ (8 - s)) s ∧ (ord (ml z) z.length).take (k + 1) = (ord (ml z) z.length).take k ++ [i] ∧ tk (ml z) ((ord (ml z) z.length).take (k + 1)) = t + shr (s : Int) := by
  have hf := fit_of hok hk
  have h0 := ord_take hkl
  obtain ⟨i, hi⟩ : ∃ i, (ord (ml z) z.length)[k] = i := ⟨_, rfl⟩
  have hin : i < z.length := by rw [← mem_ord hf.le, ← hi]; exact List.getElem_mem hkl
  rw [hi] at h0
  have hr := hf.room h0
  have ht : (ord (ml z) z.length).take (k + 1) = (ord (ml z) z.length).take k ++ [i] := by rw [List.take_succ_eq_append_getElem hkl, hi]
  have hsh : shr (ml z i : Int) = 2 ^ (8 - ml z i) := by simp [shr]
  refine ⟨i, ml z i, _, hi, hin, rfl, hf.le i hin, (ml_le hok i hin).2, rfl, by omega, shr_le _, word_at h0, ht, ?_⟩
  rw [ht, tk_append, tk_one, hsh]

set_option maxHeartbeats 4000000 in
theorem make_good (z : Nm) (w : World) (hz : Nums w z) (hm : mer z.z = 0) :
    Calls Try.prog 18 #[z.v] w fun e w' => (∃ (B : Nat) (g : List Wd), e = .returned (.tuple #[.slice (some ⟨B, 0, none⟩) g.length g.length, .int .i64 0]) ∧ g.length = z.z.length ∧ g.map (·.l) = (List.range z.z.length).map (word (ml z.z) z.z.length) ∧ Wds w' (some ⟨B, 0, none⟩) g.length g) ∧ Ext w w' := by
  have h7 := sum_any z w hz
  have hl : lerl z.z = 0 := by
    unfold mer at hm
    by_cases h : lerl z.z = 0
    · exact h
    · simp [h] at hm
  have hk : ksum z.z ≤ 256 := by
    unfold mer at hm
    by_cases h : 256 < ksum z.z
    · simp [h, hl] at hm
    · omega
  rcases lerl_cases z.z with ⟨h, e⟩ | ⟨h, h', e⟩ | ⟨h8, hok, e⟩
  · omega
  · omega
  have hf := fit_of hok hk
  have hol := ord_length hf.le
  have HR : Hid (∀ k (hkl : k < (ord (ml z.z) z.z.length).length), ∃ i s t : Nat, (ord (ml z.z) z.z.length)[k] = i ∧ i < z.z.length ∧ ml z.z i = s ∧ s ≤ 8 ∧ z.z.getD i 0 = (s : Int) ∧ tk (ml z.z) ((ord (ml z.z) z.z.length).take k) = t ∧ t ≤ 256 ∧ shr (s : Int) ≤ 256 ∧
      word (ml z.z) z.z.length i = dg (t / 2 ^ (8 - s)) s ∧ (ord (ml z.z) z.z.length).take (k + 1) = (ord (ml z.z) z.z.length).take k ++ [i] ∧ tk (ml z.z) ((ord (ml z.z) z.z.length).take (k + 1)) = t + shr (s : Int)) := fun k hkl => make_round hok hk k hkl
  have H21 : Hid (∀ W, Ext w W → Calls Try.prog 33 #[z.v] W fun e w' => (∃ x : Nm, e = .returned x.v ∧ x.z = (ord (ml z.z) z.z.length).map (fun i : Nat => (i : Int)) ∧ Nums w' x) ∧ Ext W w') := fun W e => shortestFirst_any z W (hz.ext e) h8 hok
  have SH : Hid (∀ (m : Nat) (W : World), m ≤ 8 → Calls Try.prog 32 #[.int .i64 (m : Int)] W fun e w' => e = .returned (.int .i64 (shr m)) ∧ w' = W) := fun m W hm => share_any m hm W
  have FB : Hid (∀ (t s : Nat) (W : World), t ≤ 256 → s ≤ 8 → Calls Try.prog 34 #[.int .i64 (t : Int), .int .i64 (s : Int)] W fun e w' => (∃ x : Wd, e = .returned x.v ∧ x.l = dg (t / 2 ^ (8 - s)) s ∧ Bits w' x) ∧ Ext W w') := fun t s W ht hs => firstBits_any t s ht hs W
  have HM : Hid (∀ i, i < z.z.length → i ∈ ord (ml z.z) z.z.length) := fun i hi => (mem_ord hf.le i).2 hi
  have HZ : Hid (Nums w z) := hz
  rw [hl, if_pos rfl] at h7
  clear hz hm hl hok hf e
  generalize hod : ord (ml z.z) z.z.length = od at *
  have hkz : ¬ (256 : Int) < (ksum z.z : Int) := by omega
  clear hk hod
  generalize ksum z.z = K at *
  obtain ⟨za, zc, zz⟩ := z
  simp only [Nm.v] at *
  generalize hml : ml zz = m at *
  generalize hn : zz.length = n at *
  have HN : Hid (zz.length = n) := hn
  have HOL : Hid (od.length = n) := hol
  clear hol hml hn
  have hmk := run_make_row' (P := Try.prog) 22 29 (.slice none 0 0) 24 Try.underlying22 info29 rfl .i64 .i64 n (by omega) (by omega)
  go_enter Try.func18, Try.ntmps18
  go_wp2_with fail
  refine h7.mono ?_
  rintro e w1 ⟨rfl, hb1⟩
  have st : Hid (∃ W, W = w1.alloc (.cells (madeCells #[.slice none 0 0] n) 29) ∧ Given w W w1.heap.size m n [] (fun _ => ⟨none, 0, []⟩)) := by
    refine ⟨_, rfl, hb1.alloc _, hb1.size, ?_, ?_, ?_⟩
    · exact Row.madeF w1 29 (.slice none 0 0) n _ (fun i _ => rfl)
    · intro i _
      exact ⟨by simp, by simp, by simp, 0, 0, by simp, by simp⟩
    · intro i _
      simp
  clear hb1
  go_wp2_with fail
  obtain ⟨W, hW, hG⟩ := st.out
  rw [← hW]
  clear hW st hmk h7
  refine (H21.out W hG.ext).mono ?_
  rintro e w2 ⟨⟨x, rfl, hx, hnx⟩, hb2⟩
  have ST : Hid (∃ V, Given w w2 w1.heap.size m n (od.take 0) V ∧ Nums w2 x) := by
    refine ⟨_, ⟨hG.ext.trans hb2, hG.size, Row.ext hG.row hb2, fun i hi => (hG.bits i hi).ext hb2, ?_⟩, hnx⟩
    intro i hi
    rw [hG.words i hi]
    simp
  have HX : Hid (x.z = od.map (fun i : Nat => (i : Int))) := hx
  have hxl : x.z.length = n := by rw [hx, List.length_map, HOL.out]
  clear hG hb2 hnx hx
  obtain ⟨xa, xc, xz⟩ := x
  simp only at *
  rw [hxl]
  clear hxl
  generalize w1.heap.size = B at *
  clear H21 W
  go_wp2
  go_loopg [7, 9, 26] n (fun gg v _ s wr => ∃ k : Nat, k ≤ n ∧ n - k ≤ gg ∧ s = .int .i64 k ∧ v = .int .i64 (tk m (od.take k)) ∧ Aside (∃ V, Given w wr B m n (od.take k) V ∧ Nums wr ⟨xa, xc, xz⟩))
  case atStart => exact ⟨0, Nat.zero_le _, by omega, rfl, by simp [tk], ST.out⟩
  case round =>
    obtain ⟨k, hk, hgg, rfl, rfl, A⟩ := hrel
    by_cases hlt : k < n
    · have hltz : (k : Int) < (n : Int) := by omega
      obtain ⟨V, hG, hnx⟩ := A.out
      have hkl : k < od.length := by rw [HOL.out]; exact hlt
      obtain ⟨i, s, t, h1, h2, h3, h4, h5, h6, h7, h8', h9, h10, h11⟩ := HR.out k hkl
      have hxz : xz = od.map (fun i : Nat => (i : Int)) := HX.out
      have hkx : k < xz.length := by rw [hxz, List.length_map]; exact hkl
      obtain ⟨xb, xo, hxa, ex⟩ := hnx.at k hkx
      simp only at hxa ex
      subst hxa
      have exv : xz[k] = (i : Int) := by
        have : xz[k] = (od[k] : Int) := by simp [hxz]
        rw [this, h1]
      rw [exv] at ex
      have hiz : i < zz.length := by rw [HN.out]; exact h2
      obtain ⟨zb, zo, hza, ez⟩ := HZ.out.at i hiz
      simp only at hza ez
      subst hza
      have ezv : zz[i] = (s : Int) := by rw [← h5]; simp [List.getD_eq_getElem?_getD, hiz]
      rw [ezv] at ez
      have ez1 := hG.ext.cell ez
      have EZ : Hid (w.cell? ⟨zb, zo + i, none⟩ = some (.int .i64 s)) := ez
      have H9 : Hid (word m n i = dg (t / 2 ^ (8 - s)) s) := h9
      have H10 : Hid (od.take (k + 1) = od.take k ++ [i]) := h10
      have H11 : Hid (tk m (od.take (k + 1)) = t + shr (s : Int)) := h11
      have HG : Hid (Given w wr B m n (od.take k) V ∧ Nums wr ⟨some ⟨xb, xo, none⟩, xc, xz⟩) := ⟨hG, hnx⟩
      have fb := FB.out t s wr h7 h4
      have sh := fun W => SH.out s W h4
      have SH' : Hid (∀ W, Calls Try.prog 32 #[.int .i64 (s : Int)] W fun e w' => e = .returned (.int .i64 (shr s)) ∧ w' = W) := sh
      rw [h6]
      clear A h1 h3 h5 h6 h9 h10 h11 hG hnx hxz exv ezv ez sh hkx hiz
      generalize shr (s : Int) = S at *
      have hiz2 : (i : Int) < (n : Int) := by omega
      go_wp2_with fail
      refine fb.mono ?_
      rintro e w3 ⟨⟨y, rfl, hy, hby⟩, hb3⟩
      have c1 : ∃ u, w3.cell? ⟨B, i, none⟩ = some u := ⟨_, (Row.ext HG.out.1.row hb3).cellF i h2⟩
      obtain ⟨u, c1⟩ := c1
      have f1 := (Row.ext HG.out.1.row hb3).fr i
      have NG : Hid (∃ V', Given w (w3.setCell ⟨B, i, none⟩ y.v) B m n (od.take (k + 1)) V' ∧ Nums (w3.setCell ⟨B, i, none⟩ y.v) ⟨some ⟨xb, xo, none⟩, xc, xz⟩) := by
        refine ⟨_, by rw [H10.out]; exact HG.out.1.next hb3 hby (by rw [hy, H9.out]) h2, ?_⟩
        exact (HG.out.2.ext hb3).stored (Row.ext HG.out.1.row hb3) _
      obtain ⟨ya, yc, yl⟩ := y
      simp only [Wd.v] at *
      have ez2 : (w3.setCell ⟨B, i, none⟩ (.slice ya yl.length yc)).cell? ⟨zb, zo + i, none⟩ = some (.int .i64 s) := by
        obtain ⟨V', hG', _⟩ := NG.out
        exact hG'.ext.cell EZ.out
      clear hy hby hb3 HG
      generalize yl.length = yn at *
      generalize hW4 : w3.setCell ⟨B, i, none⟩ (.slice ya yn yc) = w4 at *
      go_wp2_with fail
      clear hW4
      refine (SH'.out w4).mono ?_
      rintro e w5 ⟨rfl, rfl⟩
      go_wp2
      go_roundg (n - (k + 1))
      case measure => omega
      case rel => exact ⟨k + 1, by omega, by omega, by go_num, by rw [H11.out]; go_num, NG.out⟩
    · have hk' : k = n := by omega
      have F : Hid ((∃ g : List Wd, g.length = n ∧ g.map (·.l) = (List.range n).map (word m n) ∧ Wds wr (some ⟨B, 0, none⟩) n g) ∧ Ext w wr) := by
        obtain ⟨V, hG, _⟩ := A.out
        refine ⟨hG.code h8 (fun i hi => ?_), hG.ext⟩
        rw [hk', List.take_of_length_le (by rw [HOL.out]; exact Nat.le_refl _)]
        exact HM.out i hi
      clear A
      generalize tk m (od.take k) = T at *
      go_wp2
      go_ret2
      obtain ⟨⟨g, hg1, hg2, hg3⟩, hE⟩ := F.out
      exact ⟨⟨B, g, by rw [hg1]; rfl, hg1, hg2, by rw [hg1]; exact hg3⟩, hE⟩

end Go.Proofs.Ytfelbgilhhmbnaa
