/-
  quipuref.Unturned: the rows, byte by byte from the last one on.
-/
import Derived.Test.YtkccdhidmihekaaUn1
import Derived.Test.YtkccdhidmihekaaTd2
import Derived.Test.YtkccdhidmihekaaBk2
import Derived.RegionTactic
import Derived.BigRegion
namespace Go.Proofs.Ytkccdhidmihekaa
open Go.RowKit

set_option maxHeartbeats 1000000 in
theorem unturned_none (x : Wd) (q : Int) (w : World) (h : x.l.length = 0) :
    Calls Try.prog 13 #[x.v, .int .i64 q] w fun e w' => e = .returned (.tuple #[.slice none 0 0, .bool (q == 0)]) ∧ w' = w := by
  obtain ⟨a, c, l⟩ := x
  simp only [Wd.v] at *
  rw [h]
  go_enter Try.func13, Try.ntmps13
  go_wp2
  go_ret2
  exact ⟨rfl, rfl⟩

set_option maxHeartbeats 1000000 in
theorem unturned_range (x : Wd) (q : Int) (w : World) (h0 : 0 < x.l.length) (h : x.l.length ≤ 64) (hq : q < 0 ∨ q ≥ x.l.length) :
    Calls Try.prog 13 #[x.v, .int .i64 q] w fun e w' => e = .returned (.tuple #[.slice none 0 0, .bool false]) ∧ w' = w := by
  obtain ⟨a, c, l⟩ := x
  simp only [Wd.v] at *
  generalize l.length = n at *
  have hn0 : ((n : Int) == 0) = false := beq_eq_false_iff_ne.2 (by omega)
  by_cases h1 : q < 0
  · go_enter Try.func13, Try.ntmps13
    go_wp2
    go_ret2
    exact ⟨rfl, rfl⟩
  · have h3 : q ≥ (n : Int) := by omega
    clear hq
    go_enter Try.func13, Try.ntmps13
    go_wp2
    go_ret2
    exact ⟨rfl, rfl⟩

/-- The rows in memory, k rounds done. -/
def UR (L : List Int) (w wr : World) (B k : Nat) : Prop := ∃ X : List Wd, RW w wr B X ∧ X.map (·.l) = urows L k

/-- .. and so many of them with a byte more ahead. -/
def UI (L : List Int) (w wr : World) (B k i : Nat) : Prop := ∃ X : List Wd, RW w wr B X ∧ X.map (·.l) = (List.zipWith (· :: ·) L (urows L k)).take i ++ (urows L k).drop i

theorem UI.start {L : List Int} {w wr : World} {B k : Nat} (h : UR L w wr B k) : UI L w wr B k 0 := by
  obtain ⟨X, h1, h2⟩ := h
  exact ⟨X, h1, by simpa using h2⟩

/-- The rows so far put in order. -/
def US (L : List Int) (w wr : World) (B k i : Nat) : Prop := ∃ X0 s : List Wd, X0.map (·.l) = List.zipWith (· :: ·) L (urows L k) ∧ RW w wr B (s ++ X0.drop i) ∧ s.Perm (X0.take i) ∧ s.Pairwise (fun a b => le a.l b.l = true)

/-- .. while one seeks its place. -/
def UT (L : List Int) (w wr : World) (B k i j : Nat) (x : Wd) : Prop := ∃ X0 p q : List Wd, X0.map (·.l) = List.zipWith (· :: ·) L (urows L k) ∧ p.length = j ∧ RW w wr B (p ++ x :: (q ++ X0.drop (i + 1))) ∧ SeekW X0 i x p q

theorem zip_length (L : List Int) (k : Nat) : (List.zipWith (· :: ·) L (urows L k)).length = L.length := by
  rw [List.length_zipWith, urows_length]
  omega

theorem UI.done {L : List Int} {w wr : World} {B k : Nat} (h : UI L w wr B k L.length) : US L w wr B k 1 := by
  obtain ⟨X, h1, h2⟩ := h
  rw [List.take_of_length_le (by rw [zip_length]; omega), List.drop_eq_nil_of_le (by rw [urows_length]; omega), List.append_nil] at h2
  refine ⟨X, X.take 1, h2, by rw [List.take_append_drop]; exact h1, List.Perm.refl _, ?_⟩
  cases X with
  | nil => simp
  | cons a r => simp

theorem US.done {L : List Int} {w wr : World} {B k i : Nat} (h : US L w wr B k i) (hi : L.length ≤ i) : UR L w wr B (k + 1) := by
  obtain ⟨X0, s, h1, h2, h3, h4⟩ := h
  have hl : X0.length = L.length := by
    have := congrArg List.length h1
    rw [zip_length] at this
    simpa using this
  rw [List.drop_eq_nil_of_le (by omega), List.append_nil] at h2
  rw [List.take_of_length_le (by omega)] at h3
  refine ⟨s, h2, ?_⟩
  rw [urows]
  apply srtL_eq
  · unfold Srtd
    rw [List.pairwise_map]
    exact h4
  · rw [← h1]
    exact h3.map _

theorem US.pick {L : List Int} {w wr : World} {B k i : Nat} (h : US L w wr B k i) (hi : i < L.length) : ∃ x, UT L w wr B k i i x := by
  obtain ⟨X0, s, h1, h2, h3, h4⟩ := h
  have hl : X0.length = L.length := by
    have := congrArg List.length h1
    rw [zip_length] at this
    simpa using this
  have hi0 : i < X0.length := by omega
  refine ⟨X0[i], X0, s, [], h1, by rw [h3.length_eq, List.length_take]; omega, ?_, ⟨by simpa using h3, by simpa using h4, fun y hy => absurd hy (by simp), by rw [List.getElem?_eq_getElem hi0]⟩⟩
  rw [List.drop_eq_getElem_cons hi0] at h2
  exact h2

theorem UT.stop {L : List Int} {w wr : World} {B k i j : Nat} {x : Wd} (h : UT L w wr B k i j x) (hj : j = 0) : US L w wr B k (i + 1) := by
  obtain ⟨X0, p, q, h1, h2, h3, h4⟩ := h
  have : p = [] := List.eq_nil_of_length_eq_zero (by omega)
  subst this
  obtain ⟨a1, a2⟩ := h4.done (fun u hu => absurd hu (by simp))
  exact ⟨X0, _, h1, by simpa using h3, a1, a2⟩

theorem UT.mono {L : List Int} {w wr wr' : World} {B k i j : Nat} {x : Wd} (h : UT L w wr B k i j x) (e : Ext wr wr') : UT L w wr' B k i j x := by
  obtain ⟨X0, p, q, h1, h2, h3, h4⟩ := h
  exact ⟨X0, p, q, h1, h2, h3.mono e, h4⟩
theorem US.mono {L : List Int} {w wr wr' : World} {B k i : Nat} (h : US L w wr B k i) (e : Ext wr wr') : US L w wr' B k i := by
  obtain ⟨X0, s, h1, h2, h3⟩ := h
  exact ⟨X0, s, h1, h2.mono e, h3⟩
theorem UI.mono {L : List Int} {w wr wr' : World} {B k i : Nat} (h : UI L w wr B k i) (e : Ext wr wr') : UI L w wr' B k i := by
  obtain ⟨X, h1, h2⟩ := h
  exact ⟨X, h1.mono e, h2⟩

/-- The row that seeks, and the one ahead of it. -/
theorem UT.pair {L : List Int} {w wr : World} {B k i j : Nat} {x : Wd} (h : UT L w wr B k i (j + 1) x) : ∃ y : Wd, wr.cell? ⟨B, j + 1, none⟩ = some x.v ∧ wr.cell? ⟨B, j, none⟩ = some y.v ∧ LB wr x ∧ LB wr y ∧ x.l.length = y.l.length ∧
    (∀ m, wr.frozen? ⟨B, m, none⟩ = false) ∧ (ah x.l y.l = true → ∀ W, Ext wr W → UT L w ((W.setCell ⟨B, j + 1, none⟩ y.v).setCell ⟨B, j, none⟩ x.v) B k i j x) ∧ (ah x.l y.l = false → US L w wr B k (i + 1)) := by
  obtain ⟨X0, p, q, h1, h2, h3, h4⟩ := h
  obtain ⟨p', y, rfl⟩ : ∃ p' y, p = p' ++ [y] := ⟨p.dropLast, p.getLast (by intro h; rw [h] at h2; simp at h2), (List.dropLast_concat_getLast _).symm⟩
  have hpl : j = p'.length := by simp at h2; omega
  have h3' : RW w wr B (p' ++ y :: x :: (q ++ X0.drop (i + 1))) := by simpa using h3
  have hx := h3'.at (i := j + 1) (by simp; omega)
  have hy := h3'.at (i := j) (by simp; omega)
  have ex : (p' ++ y :: x :: (q ++ X0.drop (i + 1)))[j + 1]'(by simp; omega) = x := by
    rw [List.getElem_append_right (by omega)]
    simp [hpl]
  have ey : (p' ++ y :: x :: (q ++ X0.drop (i + 1)))[j]'(by simp; omega) = y := by
    rw [List.getElem_append_right (by omega)]
    simp [hpl]
  rw [ex] at hx
  rw [ey] at hy
  have mem : ∀ z, z ∈ X0 → z.l.length = k + 1 := by
    intro z hz
    have : z.l ∈ List.zipWith (· :: ·) L (urows L k) := by rw [← h1]; exact List.mem_map_of_mem hz
    obtain ⟨m, hm, e⟩ := List.getElem_of_mem this
    rw [← e, List.getElem_zipWith, List.length_cons, urows_each L k _ (List.getElem_mem _)]
  have mx : x ∈ X0 := List.mem_of_getElem? h4.at_
  have my : y ∈ X0 := List.mem_of_mem_take (h4.perm.subset (by simp))
  refine ⟨y, hx, hy, h3'.ok x (by simp), h3'.ok y (by simp), by rw [mem x mx, mem y my], fun m => h3'.row.fr m, fun hah W hW => ?_, fun hah => ?_⟩
  · exact ⟨X0, p', y :: q, h1, hpl.symm, by simpa using (h3'.mono hW).swap hpl, h4.step hah⟩
  · obtain ⟨a1, a2⟩ := h4.done (lastW_le (by simpa using h4.sort) hah)
    exact ⟨X0, _, h1, by simpa using h3', a1, a2⟩

/-- The row that has no byte more yet. -/
theorem UI.row {L : List Int} {w wr : World} {B k i : Nat} (h : UI L w wr B k i) (hi : i < L.length) : ∃ y : Wd, wr.cell? ⟨B, i, none⟩ = some y.v ∧ LB wr y ∧ y.l.length = k ∧ (∃ rl, Row wr B 22 rl) ∧ B < wr.heap.size ∧ Ext w wr ∧ w.heap.size ≤ B ∧
    ∀ (W : World) (z : Wd), Ext wr W → LB W z → z.l = L.getD i 0 :: y.l → UI L w (W.setCell ⟨B, i, none⟩ z.v) B k (i + 1) := by
  obtain ⟨X, h1, h2⟩ := h
  have hl : X.length = L.length := by
    have := congrArg List.length h2
    rw [List.length_append, List.length_take, List.length_drop, zip_length, urows_length] at this
    simp at this
    omega
  have hiX : i < X.length := by omega
  have hiU : i < (urows L k).length := by rw [urows_length]; exact hi
  have hiZ : i < (List.zipWith (· :: ·) L (urows L k)).length := by rw [zip_length]; exact hi
  have hlt : ((List.zipWith (· :: ·) L (urows L k)).take i).length = i := by rw [List.length_take]; omega
  have hXi : X[i].l = (urows L k)[i] := by
    have h5 : (X.map (·.l))[i]? = some X[i].l := by simp [hiX]
    rw [h2, List.getElem?_append_right (by omega), hlt, Nat.sub_self, List.getElem?_drop, Nat.add_zero, List.getElem?_eq_getElem hiU] at h5
    exact (Option.some.inj h5).symm
  refine ⟨X[i], h1.at hiX, h1.ok _ (List.getElem_mem hiX), ?_, ⟨_, h1.row⟩, h1.row.lt, h1.ext, h1.base, ?_⟩
  · rw [hXi]
    exact urows_each L k _ (List.getElem_mem hiU)
  · intro W z hW hz hzl
    refine ⟨X.set i z, (h1.mono hW).set i hz, ?_⟩
    rw [List.map_set, h2, hzl, hXi, List.take_succ_eq_append_getElem hiZ, List.getElem_zipWith, List.drop_eq_getElem_cons hiU, List.append_assoc]
    have : L.getD i 0 = L[i] := by simp [List.getD_eq_getElem?_getD, hi]
    rw [this, List.set_append, if_neg (by omega), hlt, Nat.sub_self]
    rfl

theorem UR.row {L : List Int} {w wr : World} {B i : Nat} (h : UR L w wr B L.length) (hi : i < L.length) : ∃ y : Wd, wr.cell? ⟨B, i, none⟩ = some y.v ∧ Bits wr y ∧ y.l = un L i ∧ Ext w wr := by
  obtain ⟨X, h1, h2⟩ := h
  have hl : X.length = L.length := by
    have := congrArg List.length h2
    rw [urows_length] at this
    simpa using this
  have hiX : i < X.length := by omega
  refine ⟨X[i], h1.at hiX, (h1.ok _ (List.getElem_mem hiX)).bits, ?_, h1.ext⟩
  unfold un
  rw [← h2]
  simp [List.getD_eq_getElem?_getD, hiX]

end Go.Proofs.Ytkccdhidmihekaa
