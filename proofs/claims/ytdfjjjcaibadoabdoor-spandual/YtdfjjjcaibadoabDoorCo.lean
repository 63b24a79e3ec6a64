/-
  slices.Compact of words that rise.
-/
import Derived.Test.YtdfjjjcaibadoabDoorSc
import Derived.Lib.SliceRun
namespace Go.Proofs.YtdfjjjcaibadoabDoor
open Go.RowKit Go.Sort

/-- Cells laid one behind the other into a list of cells. -/
def lay : List Value → Nat → List Value → List Value
  | l, _, [] => l
  | l, o, v :: r => lay (l.set o v) (o + 1) r
theorem Row.lays {B : Nat} {t : TypeId} : ∀ (vs : List Value) (o : Nat) (w : World) (l : List Value), Row w B t l → Row (w.setCells B o vs) B t (lay l o vs)
  | [], _, _, _, h => h
  | v :: r, o, _, _, h => Row.lays r (o + 1) _ _ (h.set o v)
theorem kb_lays {B : Nat} : ∀ (vs : List Value) (o : Nat) (w w' : World), KB B w w' → KB B w (w'.setCells B o vs)
  | [], _, _, _, h => h
  | v :: r, o, w, _, h => kb_lays r (o + 1) w _ (h.setCell v)
theorem lay_eq : ∀ (vs l : List Value) (o : Nat), o + vs.length ≤ l.length → lay l o vs = l.take o ++ vs ++ l.drop (o + vs.length)
  | [], l, o, _ => by
    show l = _
    simp
  | v :: r, l, o, h => by
    have hl : o + r.length + 1 ≤ l.length := by simpa [Nat.add_assoc] using h
    show lay (l.set o v) (o + 1) r = _
    rw [lay_eq r _ _ (by simp; omega)]
    have e1 : (l.set o v).take (o + 1) = l.take o ++ [v] := by
      rw [List.take_succ_eq_append_getElem (by simp; omega), List.take_set, List.set_eq_of_length_le (by simp; omega)]
      simp
    have e2 : (l.set o v).drop (o + 1 + r.length) = l.drop (o + 1 + r.length) := by
      rw [List.drop_set, if_pos (by omega)]
    rw [e1, e2, List.length_cons, show o + 1 + r.length = o + (r.length + 1) by omega]
    simp

/-- Of the first q words of z those that are not as the one ahead are the first k of d. -/
structure CI (z d : Array Nat) (m k q : Nat) : Prop where
  size : d.size = m
  k1 : 1 ≤ k
  kq : k + 1 ≤ q
  qm : q ≤ m
  same : ∀ i, q ≤ i + 1 → i < m → d[i]! = z[i]!
  rise : ∀ i, i + 1 < k → d[i]! < d[i + 1]!
  last : d[k - 1]! = z[q - 1]!
  mem : ∀ x, (∃ i, i < k ∧ d[i]! = x) ↔ (∃ i, i < q ∧ z[i]! = x)

theorem CI.skip {z d : Array Nat} {m k q : Nat} (h : CI z d m k q) (hq : q < m) (e : z[q]! = z[q - 1]!) : CI z d m k (q + 1) := by
  have h1 := h.k1; have h2 := h.kq
  refine ⟨h.size, h.k1, by omega, by omega, fun i hi hm => h.same i (by omega) hm, h.rise, by rw [h.last]; exact e.symm, fun x => (h.mem x).trans ?_⟩
  constructor
  · rintro ⟨i, hi, hx⟩; exact ⟨i, by omega, hx⟩
  · rintro ⟨i, hi, hx⟩
    by_cases c : i = q
    · subst c; exact ⟨i - 1, by omega, by rw [← e]; exact hx⟩
    · exact ⟨i, by omega, hx⟩

theorem set_at {d : Array Nat} {k v i : Nat} (hk : k < d.size) : (d.setIfInBounds k v)[i]! = if i = k then v else d[i]! := by
  by_cases h : i = k
  · subst h; simp [hk]
  · rw [if_neg h]
    simp only [Array.getElem!_eq_getD, Array.getD_eq_getD_getElem?]
    rw [Array.getElem?_setIfInBounds_ne (fun e => h e.symm)]

theorem CI.take {z d : Array Nat} {m k q : Nat} (h : CI z d m k q) (hq : q < m) (e : z[q - 1]! < z[q]!) : CI z (d.setIfInBounds k z[q]!) m (k + 1) (q + 1) := by
  have h1 := h.k1; have h2 := h.kq
  have hk : k < d.size := by rw [h.size]; omega
  refine ⟨by simpa using h.size, by omega, by omega, by omega, fun i hi hm => ?_, fun i hi => ?_, ?_, fun x => ?_⟩
  · rw [set_at hk, if_neg (by omega)]; exact h.same i (by omega) hm
  · rw [set_at hk, set_at hk, if_neg (by omega)]
    by_cases c : i + 1 = k
    · rw [if_pos c]
      have := h.last
      rw [show k - 1 = i by omega] at this
      omega
    · rw [if_neg c]; exact h.rise i (by omega)
  · rw [Nat.add_sub_cancel, Nat.add_sub_cancel, set_at hk, if_pos rfl]
  · constructor
    · rintro ⟨i, hi, hx⟩
      rw [set_at hk] at hx
      by_cases c : i = k
      · rw [if_pos c] at hx; exact ⟨q, by omega, hx⟩
      · rw [if_neg c] at hx
        obtain ⟨i', hi', hx'⟩ := (h.mem x).1 ⟨i, by omega, hx⟩
        exact ⟨i', by omega, hx'⟩
    · rintro ⟨i, hi, hx⟩
      by_cases c : i = q
      · subst c; exact ⟨k, by omega, by rw [set_at hk, if_pos rfl]; exact hx⟩
      · obtain ⟨i', hi', hx'⟩ := (h.mem x).2 ⟨i, by omega, hx⟩
        exact ⟨i', by omega, by rw [set_at hk, if_neg (by omega)]; exact hx'⟩

theorem CI.start {z : Array Nat} {m k : Nat} (hz : z.size = m) (h1 : 1 ≤ k) (hk : k < m) (hr : ∀ i, i + 1 < k → z[i]! < z[i + 1]!) (e : z[k]! = z[k - 1]!) : CI z z m k (k + 1) := by
  refine ⟨hz, h1, by omega, by omega, fun _ _ _ => rfl, hr, by rw [Nat.add_sub_cancel]; exact e.symm, fun x => ?_⟩
  constructor
  · rintro ⟨i, hi, hx⟩; exact ⟨i, by omega, hx⟩
  · rintro ⟨i, hi, hx⟩
    by_cases c : i = k
    · subst c; exact ⟨i - 1, by omega, by rw [← e]; exact hx⟩
    · exact ⟨i, by omega, hx⟩

/-- What comes of it, as lists. -/
theorem rises_list {z d : Array Nat} {k q : Nat} (hk : k ≤ d.size) (hq : q = z.size) (hr : ∀ i, i + 1 < k → d[i]! < d[i + 1]!) (hm : ∀ x, (∃ i, i < k ∧ d[i]! = x) ↔ (∃ i, i < q ∧ z[i]! = x)) :
    (d.toList.take k).length = k ∧ (d.toList.take k).Pairwise (· < ·) ∧ ∀ x, x ∈ d.toList.take k ↔ x ∈ z.toList := by
  have hl : (d.toList.take k).length = k := by rw [List.length_take]; simp; omega
  have hg : ∀ i (h : i < (d.toList.take k).length), (d.toList.take k)[i] = d[i]! := fun i h => by
    rw [List.getElem_take]
    have : i < d.size := by omega
    rw [get_in this]; simp
  have step : ∀ n i, i + 1 + n < k → d[i]! < d[i + 1 + n]! := by
    intro n
    induction n with
    | zero => intro i h; exact hr i h
    | succ n ih => intro i h; exact Nat.lt_trans (ih i (by omega)) (hr _ (by omega))
  refine ⟨hl, ?_, fun x => ?_⟩
  · rw [List.pairwise_iff_getElem]
    intro i j hi hj hij
    rw [hg, hg]
    have := step (j - (i + 1)) i (by omega)
    rwa [show i + 1 + (j - (i + 1)) = j by omega] at this
  · rw [List.mem_iff_getElem, List.mem_iff_getElem]
    constructor
    · rintro ⟨i, hi, e⟩
      rw [hg] at e
      obtain ⟨i', h1, h2⟩ := (hm x).1 ⟨i, by omega, e⟩
      have h1' : i' < z.size := by omega
      exact ⟨i', by simpa using h1', by rw [get_in h1'] at h2; simpa using h2⟩
    · rintro ⟨i, hi, e⟩
      have hi' : i < z.size := by simpa using hi
      obtain ⟨i', h1, h2⟩ := (hm x).2 ⟨i, by omega, by rw [get_in hi']; simpa using e⟩
      exact ⟨i', by omega, by rw [hg]; exact h2⟩

/-- The words that are told lie at the block's start, and rise. -/
def CO (B c : Nat) (z : List Nat) (w : World) (e : Ending) (w' : World) : Prop :=
  ∃ (ys : List Nat) (rest : List Value), e = .returned (.slice (some ⟨B, 0, none⟩) ys.length c) ∧ ys.Pairwise (· < ·) ∧ (∀ x, x ∈ ys ↔ x ∈ z) ∧ Row w' B 23 (uv ys ++ rest) ∧ ys.length + rest.length = c ∧ KB B w w'

set_option maxRecDepth 100000 in
set_option maxHeartbeats 8000000 in
theorem compact_any (B c m : Nat) (z : List Nat) (r : List Value) (w : World) (hr : Row w B 23 (uv z ++ r)) (hz : z.length = m) (hm : m ≤ 1000) (hc : m + r.length = c) (hs : z.Pairwise (· ≤ ·)) :
    Calls Tryd.prog 25 #[.slice (some ⟨B, 0, none⟩) m c] w
      fun e w' => Hid (CO B c z w e w') := by
  obtain ⟨Z, hZ⟩ : ∃ Z, z.toArray = Z := ⟨_, rfl⟩
  have hZs : Z.size = m := by rw [← hZ]; simpa using hz
  have U0 : Hid (UA w B Z r) := by rw [← hZ]; exact hr
  have HS : Hid (∀ i, i + 1 < m → Z[i]! ≤ Z[i + 1]!) := fun i hi => by
    rw [get_in (by omega), get_in (by omega)]
    have := List.pairwise_iff_getElem.1 hs i (i + 1) (by omega) (by omega) (by omega)
    subst hZ
    simpa using this
  have HM : Hid (∀ x, x ∈ Z.toList ↔ x ∈ z) := fun x => by rw [← hZ]
  have SZ : Hid (Z.size = m) := hZs
  have HC : Hid (m + r.length = c) := hc
  have hcm : m ≤ c := by omega
  clear hr hz hs hZ hZs hc
  by_cases h2 : m < 2
  · have h2z : (m : Int) < 2 := by omega
    have F : Hid (∀ W, UA W B Z r → ∃ ys : List Nat, (ys.length = m ∧ ys.Pairwise (· < ·) ∧ ∀ x, x ∈ ys ↔ x ∈ z) ∧ Row W B 23 (uv ys ++ r) ∧ m + r.length = c) := fun W hW =>
      ⟨Z.toList, ⟨by simpa using SZ.out, by
        have := rises_list (z := Z) (d := Z) (k := m) (q := m) (by rw [SZ.out]; omega) SZ.out.symm (fun i hi => by omega) (fun x => Iff.rfl)
        rw [List.take_of_length_le (by simpa using Nat.le_of_eq SZ.out)] at this
        exact this.2.1, HM.out⟩, hW, HC.out⟩
    go_enter Tryd.func25, Tryd.ntmps25
    go_wp2
    go_ret
    show CO _ _ _ _ _ _
    obtain ⟨ys, ⟨f0, f1, f2⟩, f3, f4⟩ := F.out w U0.out
    exact ⟨ys, r, by rw [f0]; rfl, f1, f2, f3, by rw [f0]; exact f4, KB.refl _ _⟩
  · have h2z : ¬ (m : Int) < 2 := by omega
    go_enter Tryd.func25, Tryd.ntmps25
    go_wp2
    go_loopg [3] m (fun gg s3 wr => ∃ k : Nat, 1 ≤ k ∧ k ≤ m ∧ m - k ≤ gg ∧ s3 = .int .i64 k ∧ Aside (KB B w wr) ∧ Aside (UA wr B Z r) ∧ Aside (∀ i, i + 1 < k → Z[i]! < Z[i + 1]!))
    case atStart => exact ⟨1, Nat.le_refl _, by omega, by omega, rfl, KB.refl _ _, U0.out, fun i hi => by omega⟩
    case round =>
      clear U0 h2z
      obtain ⟨k, hk1, hkm, hg, rfl, KW, UW, RW⟩ := hrel
      by_cases hlt : k < m
      · have hltz : (k : Int) < (m : Int) := by omega
        obtain ⟨t, rfl⟩ : ∃ t, k = t + 1 := ⟨k - 1, by omega⟩
        have e1 := UW.out.cell (i := t + 1) (by rw [SZ.out]; omega)
        have e2 := UW.out.cell (i := t) (by rw [SZ.out]; omega)
        have LE := HS.out t (by omega)
        have XX : Hid (Z[t + 1]! = Z[t + 1]! ∧ Z[t]! = Z[t]!) := ⟨rfl, rfl⟩
        obtain ⟨x, hx⟩ : ∃ x, Z[t + 1]! = x := ⟨_, rfl⟩
        obtain ⟨y, hy⟩ : ∃ y, Z[t]! = y := ⟨_, rfl⟩
        have XY : Hid (Z[t + 1]! = x ∧ Z[t]! = y) := ⟨hx, hy⟩
        rw [hx] at e1 LE
        rw [hy] at e2 LE
        clear XX hx hy
        have b1 : (t : Int) + 1 < (m : Int) := by omega
        have b2 : (t : Int) < (m : Int) := by omega
        by_cases hxy : x = y
        · subst hxy
          have ST : Hid (CI Z Z m (t + 1) (t + 1 + 1)) := CI.start SZ.out (by omega) hlt RW.out (by rw [Nat.add_sub_cancel, XY.out.1, XY.out.2])
          obtain ⟨j, hj⟩ : ∃ j, m - (t + 1) = j := ⟨_, rfl⟩
          have hcj : ¬ c = t + 1 := by omega
          clear LE
          go_wp2
          go_quiet (fail)
          go_wp2
          have K0 : Hid (KB B w (wr.drewN nq)) := KW.out.trans (KB.of_ext (Qt.ext ⟨_, rfl⟩))
          have U1 : Hid (UA (wr.drewN nq) B Z r) := UW.out.ext (Qt.ext ⟨_, rfl⟩)
          have HJ : Hid (m - (t + 1) = j) := hj
          have hj1 : 1 ≤ j := by omega
          have hjm : j ≤ 1000 := by omega
          clear e1 e2 KW UW RW hj XY b1 b2 hltz
          generalize wr.drewN nq = W0 at *
          go_loopg [3, 5] j (fun gg s3 s5 wi => ∃ (q u : Nat) (d : Array Nat), u + 1 ≤ j ∧ j - u ≤ gg ∧ s3 = .int .i64 q ∧ s5 = .int .i64 ((u : Int) + 1) ∧ Aside (KB B w wi) ∧ Aside (UA wi B d r) ∧ Aside (CI Z d m q (t + 1 + (u + 1))))
          case atStart => exact ⟨t + 1, 0, Z, by omega, by omega, by go_num, by go_num, K0.out, U1.out, ST.out⟩
          case round =>
            clear K0 U1 ST
            obtain ⟨q, u, d, huj, hgu, rfl, rfl, KW, UW, CW⟩ := hrel
            have q1 := CW.out.k1
            have q2 := CW.out.kq
            have q3 := CW.out.qm
            by_cases hu : u + 1 < j
            · have huz : (u : Int) + 1 < (j : Int) := by omega
              have hqm : t + 1 + (u + 1) < m := by have := HJ.out; omega
              have e1 := UW.out.cell (i := t + 1 + (u + 1)) (by rw [CW.out.size]; omega)
              have e2 := UW.out.cell (i := t + 1 + u) (by rw [CW.out.size]; omega)
              have e3 := UW.out.cell (i := q) (by rw [CW.out.size]; omega)
              have f3 := UW.out.fr q
              have b1 : (u : Int) < (j : Int) := by omega
              have b3 : (q : Int) < (m : Int) := by omega
              rw [CW.out.same _ (by omega) hqm] at e1
              rw [CW.out.same _ (by omega) (by omega)] at e2
              have LE := HS.out (t + 1 + u) (by omega)
              obtain ⟨x, hx⟩ : ∃ x, Z[t + 1 + (u + 1)]! = x := ⟨_, rfl⟩
              obtain ⟨y, hy⟩ : ∃ y, Z[t + 1 + u]! = y := ⟨_, rfl⟩
              have XY : Hid (Z[t + 1 + (u + 1)]! = x ∧ Z[t + 1 + u]! = y) := ⟨hx, hy⟩
              rw [show t + 1 + u + 1 = t + 1 + (u + 1) by omega, hx, hy] at LE
              rw [hx] at e1
              rw [hy] at e2
              clear hx hy
              generalize d[q]! = v3 at *
              by_cases hxy : x = y
              · subst hxy
                have NX : Hid (CI Z d m q (t + 1 + (u + 1) + 1)) := CW.out.skip hqm (by rw [show t + 1 + (u + 1) - 1 = t + 1 + u by omega, XY.out.1, XY.out.2])
                have hne : ((x : Int) != (x : Int)) = false := by simp
                clear LE q1 q2 q3 CW XY
                go_wp2
                go_quiet (fail)
                go_wp2
                go_roundg (j - (u + 1))
                case measure => omega
                case rel => exact ⟨q, u + 1, d, by omega, by omega, rfl, by go_num, KW.out.trans (KB.of_ext (Qt.ext ⟨_, rfl⟩)), UW.out.ext (Qt.ext ⟨_, rfl⟩), NX.out⟩
              · have hne : ((x : Int) != (y : Int)) = true := by rw [bne_iff_ne]; omega
                have NX : Hid (CI Z (d.setIfInBounds q x) m (q + 1) (t + 1 + (u + 1) + 1)) := by
                  have := CW.out.take hqm (by rw [show t + 1 + (u + 1) - 1 = t + 1 + u by omega, XY.out.1, XY.out.2]; omega)
                  rw [XY.out.1] at this
                  exact this
                have US : Hid (∀ W, Qt wr W → UA (W.setCell ⟨B, q, none⟩ (.int .u32 (x : Nat))) B (d.setIfInBounds q x) r) := fun W hW => (UW.out.ext hW.ext).set (by rw [CW.out.size]; omega) x
                clear LE q1 q3 CW XY
                go_wp2
                go_quiet (fail)
                go_wp2
                go_roundg (j - (u + 1))
                case measure => omega
                case rel => exact ⟨q + 1, u + 1, _, by omega, by omega, by go_num, by go_num, (KW.out.trans (KB.of_ext (Qt.ext ⟨_, rfl⟩))).setCell _, US.out _ ⟨_, rfl⟩, NX.out⟩
            · have huz : ¬ (u : Int) + 1 < (j : Int) := by omega
              have hqm : q < m := by omega
              have hcq : ¬ c = q := by omega
              have hq0 : (0 : Int) ≤ (q : Int) := by omega
              have hq1 : (q : Int) ≤ (m : Int) := by omega
              have hqc : q ≤ c := by omega
              obtain ⟨l, hl⟩ : ∃ l, m - q = l := ⟨_, rfl⟩
              have hcl : ∀ ty, (Builtin.clear_ #[22] ty #[.slice (some ⟨B, q, none⟩) l (c - q)]).run Tryd.prog wr = .ok (.tuple #[]) (wr.setCells B q (List.replicate l (.int .u32 0))) := fun ty =>
                Lib.run_clear_slice wr _ _ ty _ Tryd.underlying22 (fun W => by go_simp) rfl rfl B q l _ (by omega) (fun t ht => by rw [UW.out.cell (i := q + t) (by rw [CW.out.size]; omega)]; rfl) (fun t ht => UW.out.fr _)
              have F : Hid (∃ (ys : List Nat) (rest : List Value), ys.length = q ∧ ys.Pairwise (· < ·) ∧ (∀ x, x ∈ ys ↔ x ∈ z) ∧ Row (wr.setCells B q (List.replicate l (.int .u32 0))) B 23 (uv ys ++ rest) ∧ q + rest.length = c) := by
                have hq : t + 1 + (u + 1) = Z.size := by rw [SZ.out]; have := HJ.out; omega
                obtain ⟨g1, g2, g3⟩ := rises_list (z := Z) (d := d) (k := q) (q := t + 1 + (u + 1)) (by rw [CW.out.size]; omega) hq CW.out.rise CW.out.mem
                refine ⟨d.toList.take q, List.replicate l (.int .u32 0) ++ r, g1, g2, fun x => (g3 x).trans (HM.out x), ?_, by simp; have := HC.out; omega⟩
                have hds : d.size = m := CW.out.size
                have := Row.lays (List.replicate l (.int .u32 0)) q wr _ UW.out
                rw [lay_eq _ _ _ (by simp; omega), List.length_replicate, show q + l = m by omega, List.take_append_of_le_length (by simp; omega), List.drop_append_of_le_length (by simp; omega), List.drop_eq_nil_of_le (by simp; omega)] at this
                have e : (uv d.toList).take q = uv (d.toList.take q) := (List.map_take ..).symm
                rw [e] at this
                simpa using this
              have KF : Hid (KB B w (wr.setCells B q (List.replicate l (.int .u32 0)))) := kb_lays _ _ _ _ KW.out
              clear KW UW CW q1 q2 q3 HJ
              go_wp2
              go_ret
              show CO _ _ _ _ _ _
              obtain ⟨ys, rest, f0, f1, f2, f3, f4⟩ := F.out
              exact ⟨ys, rest, by rw [f0]; rfl, f1, f2, f3, by rw [f0]; exact f4, KF.out⟩
        · have hne : ((x : Int) == (y : Int)) = false := by rw [beq_eq_false_iff_ne]; omega
          have RN : Hid (∀ i, i + 1 < t + 1 + 1 → Z[i]! < Z[i + 1]!) := fun i hi => by
            by_cases c : i = t
            · subst c; rw [XY.out.1, XY.out.2]; omega
            · exact RW.out i (by omega)
          clear LE
          go_wp2
          go_quiet (fail)
          go_wp2
          go_roundg (m - (t + 1 + 1))
          case measure => omega
          case rel => exact ⟨t + 1 + 1, by omega, by omega, by omega, by go_num, KW.out.trans (KB.of_ext (Qt.ext ⟨_, rfl⟩)), UW.out.ext (Qt.ext ⟨_, rfl⟩), RN.out⟩
      · have hltz : ¬ (k : Int) < (m : Int) := by omega
        obtain rfl : k = m := by omega
        have F : Hid (∃ ys : List Nat, (ys.length = k ∧ ys.Pairwise (· < ·) ∧ ∀ x, x ∈ ys ↔ x ∈ z) ∧ Row wr B 23 (uv ys ++ r) ∧ k + r.length = c) := by
          have := rises_list (z := Z) (d := Z) (k := k) (q := k) (by rw [SZ.out]; omega) SZ.out.symm RW.out (fun x => Iff.rfl)
          rw [List.take_of_length_le (by simpa using Nat.le_of_eq SZ.out)] at this
          exact ⟨Z.toList, ⟨this.1, this.2.1, HM.out⟩, UW.out, HC.out⟩
        go_wp2
        go_ret
        show CO _ _ _ _ _ _
        obtain ⟨ys, ⟨f0, f1, f2⟩, f3, f4⟩ := F.out
        exact ⟨ys, r, by rw [f0]; rfl, f1, f2, f3, by rw [f0]; exact f4, KW.out⟩

end Go.Proofs.YtdfjjjcaibadoabDoor
