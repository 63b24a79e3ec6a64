/-
  What prefix.Prefix and quipuref.Prefix answer of a code: whether no word of it begins another one.
-/
import Derived.Test.YtfelbgilhhmbnaaCheck
namespace Go.Proofs.Ytfelbgilhhmbnaa
open Go.RowKit

/-- One of two words begins the other one. -/
def clash (x y : List Bool) : Bool := x.isPrefixOf y || y.isPrefixOf x
/-- No word begins another one. -/
def free (g : List Wd) : Bool := decide (g.Pairwise fun x y => clash x.l y.l = false)

theorem free_true {g : List Wd} (h : ∀ i j (hi : i < g.length) (hj : j < g.length), i < j → clash g[i].l g[j].l = false) : free g = true := by
  unfold free
  rw [decide_eq_true_iff, List.pairwise_iff_getElem]
  exact h

theorem free_at {g : List Wd} (h : free g = true) (i j : Nat) (hi : i < g.length) (hj : j < g.length) (hij : i < j) : clash g[i].l g[j].l = false := by
  unfold free at h
  rw [decide_eq_true_iff, List.pairwise_iff_getElem] at h
  exact h i j hi hj hij

theorem free_false {g : List Wd} (i j : Nat) (hi : i < g.length) (hj : j < g.length) (hij : i < j) (h : clash g[i].l g[j].l = true) : free g = false := by
  cases hf : free g with
  | false => rfl
  | true => rw [free_at hf i j hi hj hij] at h; cases h

theorem clash_comm (x y : List Bool) : clash x y = clash y x := by
  unfold clash; exact Bool.or_comm _ _

theorem free_false' {g : List Wd} (i j : Nat) (hi : i < g.length) (hj : j < g.length) (hij : i ≠ j) (h : g[i].l.isPrefixOf g[j].l = true) : free g = false := by
  have hc : clash g[i].l g[j].l = true := by unfold clash; rw [h]; rfl
  rcases Nat.lt_or_gt_of_ne hij with hlt | hlt
  · exact free_false i j hi hj hlt hc
  · exact free_false j i hj hi hlt (by rw [clash_comm]; exact hc)

theorem free_true' {g : List Wd} (h : ∀ i j (hi : i < g.length) (hj : j < g.length), i ≠ j → g[i].l.isPrefixOf g[j].l = false) : free g = true :=
  free_true (fun i j hi hj hij => by unfold clash; rw [h i j hi hj (by omega), h j i hj hi (by omega)]; rfl)

set_option maxHeartbeats 400000 in
theorem clash_any (B : Nat) (x y : Wd) (w : World) (hx : Bits w x) (hy : Bits w y) (hc : w.cell? ⟨B, 0, none⟩ = some x.v) :
    Calls Try.prog 22 (#[y.v] ++ #[.pointer (some ⟨B, 0, none⟩)]) w fun e w' => e = .returned (.bool (clash x.l y.l)) ∧ Ext w w' := by
  show Calls Try.prog 22 #[y.v, .pointer (some ⟨B, 0, none⟩)] w _
  have h1 := begins_any x y w hx hy
  have h2 : Hid (∀ W, Qt w W → Calls Try.prog 23 #[y.v, x.v] W fun e w' => e = .returned (.bool (y.l.isPrefixOf x.l)) ∧ Qt W w') := fun W e => begins_any y x W (hy.ext e.ext) (hx.ext e.ext)
  have h3 : Hid (∀ W, Qt w W → W.cell? ⟨B, 0, none⟩ = some x.v) := fun W e => e.cell hc
  unfold clash
  clear hx hy
  generalize y.l.isPrefixOf x.l = r2 at *
  cases hr : x.l.isPrefixOf y.l
  all_goals
    rw [hr] at h1
    clear hr
    simp only [Wd.v] at *
    go_enter Try.func22, Try.ntmps22
    go_wp2_with fail
    refine h1.mono ?_
    rintro e w1 ⟨rfl, hb⟩
    have hc1 := h3.out w1 hb
  · go_wp2_with fail
    refine (h2.out w1 hb).mono ?_
    rintro e w2 ⟨rfl, hb2⟩
    go_wp2
    go_ret
    exact ⟨ret_bool (by simp), (hb.trans hb2).ext⟩
  · go_wp2
    go_ret
    exact ⟨ret_bool (by simp), hb.ext⟩

theorem Wds.drop {w : World} {b o c : Nat} {a : Option Addr} {g : List Wd} (hg : Wds w a c g) (ha : a = some ⟨b, o, none⟩) (k : Nat) (hk : k ≤ g.length) : Wds w (some ⟨b, o + k, none⟩) (c - k) (g.drop k) := by
  obtain ⟨h1, h2, h3, b', o', h4, h5⟩ := hg
  refine ⟨by simp; omega, by omega, fun x hx => h3 x (List.mem_of_mem_drop hx), b, o + k, fun _ => rfl, fun i hi => ?_⟩
  have hi' : k + i < g.length := by simp at hi; omega
  have ha' := h4 (by omega)
  rw [ha] at ha'
  simp only [Option.some.injEq, Addr.mk.injEq] at ha'
  obtain ⟨rfl, rfl, _⟩ := ha'
  have := h5 (k + i) hi'
  rw [List.getElem_drop, Nat.add_assoc]
  exact this

theorem Wds.sub {w : World} {a : Option Addr} {c : Nat} {g : List Wd} (hg : Wds w a c g) (i : Nat) (hi : i < g.length) : Bits w g[i] := hg.2.2.1 _ (List.getElem_mem hi)

/-- Whether a word clashes with one of those behind it. -/
def later (g : List Wd) (k : Nat) (y : Wd) : Bool := (g.drop (k + 1)).any (fun x => clash y.l x.l)

theorem later_true {g : List Wd} {k : Nat} (hk : k < g.length) (h : later g k g[k] = true) : free g = false := by
  obtain ⟨x, hx, hc⟩ := List.any_eq_true.1 h
  obtain ⟨j, hj, rfl⟩ := List.mem_iff_getElem.1 hx
  rw [List.getElem_drop] at hc
  have hj' : k + 1 + j < g.length := by simp at hj; omega
  exact free_false k (k + 1 + j) hk hj' (by omega) hc

theorem later_false {g : List Wd} {k : Nat} (hk : k < g.length) (h : later g k g[k] = false) (j : Nat) (hj : j < g.length) (hkj : k < j) : clash g[k].l g[j].l = false := by
  have h' := List.any_eq_false.1 h (g[j]) (by
    rw [List.mem_iff_getElem]
    exact ⟨j - (k + 1), by simp; omega, by rw [List.getElem_drop]; congr 1; omega⟩)
  simpa using h'

theorem later_calls (a : Option Addr) (c b o k n B : Nat) (g : List Wd) (w W : World) (hg : Wds w a c g) (hn : g.length = n) (hk : k < n) (ha : a = some ⟨b, o, none⟩) (y : Wd) (hy : Bits w y) (a' : Option Addr) (c' : Nat)
    (hc : (c = k + 1 ∧ c' = 0) ∨ (a' = some ⟨b, o + (k + 1), none⟩ ∧ c' = c - (k + 1))) (hW : Ext w W) (hB : W.cell? ⟨B, 0, none⟩ = some y.v) :
    Calls Try.prog 24 #[.slice a' (n - (k + 1)) c', .func (.func 22) #[] #[.pointer (some ⟨B, 0, none⟩)]] W fun e w' => e = .returned (.bool (later g k y)) ∧ Ext W w' := by
  have eg : ∀ args w, (callFunc 22 args).run Try.prog w = .ok (.enter 22 args) w := enters_of Try.func22 (by kernel_rfl) rfl
  have hl : n - (k + 1) = (g.drop (k + 1)).length := by simp; omega
  have hw : Wds W a' c' (g.drop (k + 1)) := by
    rcases hc with ⟨hc, rfl⟩ | ⟨rfl, rfl⟩
    · have h1 := hg.1
      have : g.drop (k + 1) = [] := List.drop_eq_nil_of_le (by omega)
      rw [this]
      exact ⟨by simp, by simp, by simp, 0, 0, by simp, by simp⟩
    · exact (hg.drop ha (k + 1) (by omega)).ext hW
  rw [hl]
  exact contains_any a' c' (g.drop (k + 1)) 22 #[.pointer (some ⟨B, 0, none⟩)] (fun x => clash y.l x.l) W eg hw
    (fun W' x hx e => clash_any B y x W' (hy.ext (hW.trans e)) ((hg.2.2.1 x (List.mem_of_mem_drop hx)).ext (hW.trans e)) (e.cell hB))

set_option maxHeartbeats 1000000 in
theorem prefix_any (a : Option Addr) (c : Nat) (g : List Wd) (w : World) (hg : Wds w a c g) :
    Calls Try.prog 8 #[.slice a g.length c] w fun e w' => e = .returned (.tuple #[.bool (erl g == 0 && free g), .int .i64 (erl g)]) ∧ Ext w w' := by
  have h9 := check_any a c g w hg
  have HG : Hid (Wds w a c g) := hg
  obtain ⟨h1, h2, h3, b, o, h4, h5⟩ := hg
  obtain ⟨n, hn⟩ : ∃ n, g.length = n := ⟨_, rfl⟩
  have HN : Hid (g.length = n) := hn
  have H5 : Hid (∀ i (h : i < g.length), w.cell? ⟨b, o + i, none⟩ = some (g[i].v)) := h5
  unfold maxLen at h2
  rw [hn] at h1 h4 h9 ⊢
  clear hn h5 h3
  have he : erl g = 1 ∨ erl g = 0 := by unfold erl; split <;> simp
  rcases he with he | he
  · rw [he] at h9 ⊢
    clear he
    go_enter Try.func8, Try.ntmps8
    go_wp2_with (go_at_call 21; refine h9.mono ?_; rintro e w' ⟨rfl, hb⟩)
    go_ret2
    exact ⟨rfl, hb⟩
  · rw [he] at h9 ⊢
    clear he
    go_enter Try.func8, Try.ntmps8
    go_wp2_with (go_at_call 21; refine h9.mono ?_; rintro e w' ⟨rfl, hb⟩)
    go_loopg [5, 6, 7, 15] n (fun gg _ _ _ s wr => ∃ k : Nat, k ≤ n ∧ n - k ≤ gg ∧ s = .int .i64 k ∧ Aside (Ext w wr) ∧ Aside (∀ i j (hi : i < g.length) (hj : j < g.length), i < k → i < j → clash g[i].l g[j].l = false))
    case atStart => exact ⟨0, Nat.zero_le _, by omega, rfl, hb, fun i j hi hj h => absurd h (Nat.not_lt_zero _)⟩
    case round =>
      obtain ⟨k, hk, hgg, rfl, BW, A⟩ := hrel
      by_cases hlt : k < n
      · have hltz : (k : Int) < (n : Int) := by omega
        have ha := h4 (by omega)
        have hkl : k < g.length := by rw [HN.out]; exact hlt
        have e1 := BW.out.cell (H5.out k hkl)
        have hlt' : Hid (later g k g[k] = true → free g = false) := later_true hkl
        have hlf : Hid (later g k g[k] = false → ∀ i j (hi : i < g.length) (hj : j < g.length), i < k + 1 → i < j → clash g[i].l g[j].l = false) := fun h i j hi hj hik hij => by
          rcases Nat.lt_succ_iff_lt_or_eq.1 hik with h' | rfl
          · exact A.out i j hi hj h' hij
          · exact later_false hi h j hj hij
        have hcon : Hid (∀ (W : World) (a' : Option Addr) (c' : Nat), (c = k + 1 ∧ c' = 0) ∨ (a' = some ⟨b, o + (k + 1), none⟩ ∧ c' = c - (k + 1)) → Ext w W → W.cell? ⟨wr.heap.size, 0, none⟩ = some g[k].v →
            Calls Try.prog 24 #[.slice a' (n - (k + 1)) c', .func (.func 22) #[] #[.pointer (some ⟨wr.heap.size, 0, none⟩)]] W fun e w' => e = .returned (.bool (later g k g[k])) ∧ Ext W w') :=
          fun W a' c' hc hW hB => later_calls a c b o k n wr.heap.size g w W HG.out HN.out hlt ha g[k] (HG.out.sub k hkl) a' c' hc hW hB
        subst ha
        generalize g[k] = y at e1 hcon hlt' hlf
        generalize later g k y = r at hcon hlt' hlf
        clear h4
        simp only [Wd.v] at e1
        by_cases hce : c = k + 1
        · have hc2 : Hid (∀ (W : World) (a' : Option Addr), Ext w W → W.cell? ⟨wr.heap.size, 0, none⟩ = some y.v →
              Calls Try.prog 24 #[.slice a' 0 0, .func (.func 22) #[] #[.pointer (some ⟨wr.heap.size, 0, none⟩)]] W fun e w' => e = .returned (.bool r) ∧ Ext W w') := fun W a' => by
            have h0 := hcon.out W a' 0 (Or.inl ⟨hce, rfl⟩)
            rwa [show n - (k + 1) = 0 from by omega] at h0
          clear hcon
          subst hce
          cases r
          all_goals
            go_wp2_with fail
            refine (hc2.out _ _ (BW.out.alloc _) (by simp)).mono ?_
            rintro e w2 ⟨rfl, hb2⟩
            go_wp2
            first
            | go_ret2
              refine ⟨?_, (BW.out.alloc _).trans hb2⟩
              have hf := hlt'.out (by simp)
              simp [hf]
            | go_roundg (n - (k + 1))
              case measure => omega
              case rel => exact ⟨k + 1, by omega, by omega, by go_num, (BW.out.alloc _).trans hb2, hlf.out (by simp)⟩
        · have hc2 : Hid (∀ (W : World), Ext w W → W.cell? ⟨wr.heap.size, 0, none⟩ = some y.v →
              Calls Try.prog 24 #[.slice (some ⟨b, o + (k + 1), none⟩) (n - (k + 1)) (c - (k + 1)), .func (.func 22) #[] #[.pointer (some ⟨wr.heap.size, 0, none⟩)]] W fun e w' => e = .returned (.bool r) ∧ Ext W w') := fun W => hcon.out W _ _ (Or.inr ⟨rfl, rfl⟩)
          clear hcon
          cases r
          all_goals
            go_wp2_with fail
            refine (hc2.out _ (BW.out.alloc _) (by simp)).mono ?_
            rintro e w2 ⟨rfl, hb2⟩
            go_wp2
            first
            | go_ret2
              refine ⟨?_, (BW.out.alloc _).trans hb2⟩
              have hf := hlt'.out (by simp)
              simp [hf]
            | go_roundg (n - (k + 1))
              case measure => omega
              case rel => exact ⟨k + 1, by omega, by omega, by go_num, (BW.out.alloc _).trans hb2, hlf.out (by simp)⟩
      · have hf : Hid (free g = true) := free_true (fun i j hi hj hij => A.out i j hi hj (by have := HN.out; omega) hij)
        go_wp2
        go_ret2
        refine ⟨?_, BW.out⟩
        simp [hf.out]

end Go.Proofs.Ytfelbgilhhmbnaa
