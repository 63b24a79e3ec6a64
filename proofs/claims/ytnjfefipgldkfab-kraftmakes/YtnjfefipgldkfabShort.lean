/-
  What quipuref.Shortest answers of lengths that fit: the words of Canon.
-/
import Derived.Test.YtnjfefipgldkfabMake
namespace Go.Proofs.Ytnjfefipgldkfab
open Go.RowKit

/-- What lies in memory while the document's answer is made: words of q, those of p told as given. -/
structure Sh (w0 wr : World) (B : Nat) (m : Nat → Nat) (n : Nat) (q p : List Nat) (v : Value) (V : Nat → Wd) : Prop where
  ext : Ext w0 wr
  size : w0.heap.size = B
  row : SlRow wr B n V
  words : ∀ i, i < n → (i ∈ q → ∃ b, V i = ⟨some ⟨b, 0, none⟩, m i, word m n i⟩ ∧ Row wr b 4 (bv (word m n i))) ∧ (i ∉ q → V i = ⟨none, 0, []⟩)
  own : wr.ownsRow (B + 1) 3 1 v p.length (iv (p.map (fun i : Nat => (i : Int))))

theorem Sh.mono {w0 wr w2 : World} {B n : Nat} {m : Nat → Nat} {q p : List Nat} {v : Value} {V : Nat → Wd} (h : Sh w0 wr B m n q p v V) (e : Ext wr w2) : Sh w0 w2 B m n q p v V :=
  ⟨h.ext.trans e, h.size, Row.ext h.row e, fun i hi => ⟨fun hq => by
    obtain ⟨b, h1, h2⟩ := (h.words i hi).1 hq
    exact ⟨b, h1, h2.ext e⟩, (h.words i hi).2⟩, ownsRow_ext h.own e⟩

theorem word_bits {w : World} {B n i : Nat} {m : Nat → Nat} (h : Row w B 4 (bv (word m n i))) (h8 : m i ≤ 8) : Bits w ⟨some ⟨B, 0, none⟩, m i, word m n i⟩ := by
  have := h.bits (by rw [word_length]; unfold maxLen; omega)
  rw [word_length] at this
  exact this

theorem nil_bits (w : World) : Bits w ⟨none, 0, []⟩ := ⟨by simp, by simp, by simp, 0, 0, by simp, by simp⟩

theorem Sh.bits {w0 wr : World} {B n : Nat} {m : Nat → Nat} {q p : List Nat} {v : Value} {V : Nat → Wd} (h : Sh w0 wr B m n q p v V) (h8 : ∀ i, i < n → m i ≤ 8) (i : Nat) (hi : i < n) : Bits wr (V i) := by
  by_cases hq : i ∈ q
  · obtain ⟨b, h1, h2⟩ := (h.words i hi).1 hq
    rw [h1]
    exact word_bits h2 (h8 i hi)
  · rw [(h.words i hi).2 hq]
    exact nil_bits wr

theorem Sh.store {w0 wr : World} {B n i b : Nat} {m : Nat → Nat} {q p : List Nat} {v : Value} {V : Nat → Wd} (h : Sh w0 wr B m n q p v V) (hb : Row wr b 4 (bv (word m n i))) :
    Sh w0 (wr.setCell ⟨B, i, none⟩ (.slice (some ⟨b, 0, none⟩) (m i) (m i))) B m n (q ++ [i]) p v (fun j => if j = i then ⟨some ⟨b, 0, none⟩, m i, word m n i⟩ else V j) := by
  have hne : ∀ c l, Row wr c 4 l → c ≠ B := fun c l hc e => by
    subst e
    have h1 := h.row
    have h2 := hc
    unfold SlRow Row at h1
    unfold Row at h2
    rw [h1] at h2
    simp at h2
  refine ⟨h.ext.setCell (by rw [h.size]; exact Nat.le_refl _) _, h.size, ?_, ?_, ?_⟩
  · refine Row.setF h.row _ _ (fun j _ => ?_)
    by_cases hj : j = i
    · simp only [if_pos hj, Wd.v, word_length]
    · simp only [if_neg hj]
  · intro j hj
    by_cases hji : j = i
    · subst hji
      refine ⟨fun _ => ⟨b, by simp, hb.other _ (fun e => hne b _ hb e.symm) _⟩, fun hq => absurd (by simp) hq⟩
    · simp only [if_neg hji]
      refine ⟨fun hq => ?_, fun hq => (h.words j hj).2 (fun h' => hq (by simp [h']))⟩
      have hq' : j ∈ q := by
        rcases List.mem_append.1 hq with h' | h'
        · exact h'
        · simp at h'; exact absurd h' hji
      obtain ⟨c, h1, h2⟩ := (h.words j hj).1 hq'
      exact ⟨c, h1, h2.other _ (fun e => hne c _ h2 e.symm) _⟩
  · exact ownsRow_setCell_below h.own (by show B < B + 1; omega) _

theorem Sh.app {w0 wr w' : World} {B n i : Nat} {m : Nat → Nat} {q p : List Nat} {v v' : Value} {V : Nat → Wd} (h : Sh w0 wr B m n q p v V)
    (hown : w'.ownsRow (B + 1) 3 1 v' (p.length + 1) (iv (p.map (fun i : Nat => (i : Int))) ++ [.int .i64 (i : Int)])) (hg : (wr.alloc (.cells #[.int .i64 (i : Int)] 3)).grownBy w' v.ownBlock) : Sh w0 w' B m n q (p ++ [i]) v' V := by
  have h1 := h.mono ((Ext.refl wr).alloc (.cells #[.int .i64 (i : Int)] 3))
  have keep : ∀ c t l, t ≠ 3 → Row (wr.alloc (.cells #[.int .i64 (i : Int)] 3)) c t l → Row w' c t l := by
    intro c t l ht hc
    show w'.heap[c]? = _
    rw [hg.block c hc.lt ?_]
    · exact hc
    · intro e
      obtain ⟨_, h2⟩ := h1.own
      rcases h2 with ⟨rfl, _⟩ | ⟨g, cap, cur, rfl, _, hh, _⟩
      · simp [Value.ownBlock] at e
      · simp [Value.ownBlock] at e
        subst e
        unfold Row at hc
        rw [hh] at hc
        simp at hc
        exact ht hc.2.symm
  refine ⟨?_, h.size, keep _ _ _ (by decide) h1.row, ?_, ?_⟩
  · exact Below.grown h1.ext hg h1.ext.size (fun k hk => by
      have := (h1.own.lt k hk).1
      have := h.size
      omega)
  · intro j hj
    refine ⟨fun hq => ?_, (h1.words j hj).2⟩
    obtain ⟨c, h3, h4⟩ := (h1.words j hj).1 hq
    exact ⟨c, h3, keep _ _ _ (by decide) h4⟩
  · rw [List.length_append, List.map_append]
    simpa using hown

theorem Sh.form {w0 wr : World} {B n : Nat} {m : Nat → Nat} {q p : List Nat} {v : Value} {V : Nat → Wd} (h : Sh w0 wr B m n q p v V) : ∃ a c, v = .slice a p.length c := by
  obtain ⟨_, h2⟩ := h.own
  rcases h2 with ⟨rfl, h0⟩ | ⟨g, cap, cur, rfl, _⟩
  · exact ⟨none, 0, by rw [h0]⟩
  · exact ⟨_, _, rfl⟩

theorem Sh.at {w0 wr : World} {B n c : Nat} {a : Option Addr} {m : Nat → Nat} {q p : List Nat} {V : Nat → Wd} (h : Sh w0 wr B m n q p (.slice a p.length c) V) (k : Nat) (hk : k < p.length) :
    ∃ g, a = some ⟨g, 0, none⟩ ∧ wr.cell? ⟨g, k, none⟩ = some (.int .i64 (p[k] : Int)) := by
  have ho := h.own
  obtain ⟨_, h2⟩ := h.own
  rcases h2 with ⟨hv, h0⟩ | ⟨g, cap, cur, hv, _⟩
  · omega
  · simp at hv
    obtain ⟨rfl, rfl⟩ := hv
    refine ⟨g, rfl, ?_⟩
    have := ho.cellAt k (by omega)
    simpa [hk] using this

/-- Does none of the first k begin these bits? -/
def okTo (m : Nat → Nat) (n : Nat) (p : List Nat) (x s k : Nat) : Bool := (p.take k).all (fun j => !(word m n j).isPrefixOf (dg x s))
theorem okTo_zero (m : Nat → Nat) (n : Nat) (p : List Nat) (x s : Nat) : okTo m n p x s 0 = true := by simp [okTo]
theorem okTo_succ (m : Nat → Nat) (n : Nat) (p : List Nat) (x s k : Nat) (hk : k < p.length) : okTo m n p x s (k + 1) = (okTo m n p x s k && !(word m n p[k]).isPrefixOf (dg x s)) := by
  unfold okTo
  rw [List.take_succ_eq_append_getElem hk, List.all_append]
  simp
theorem okTo_less {m : Nat → Nat} {n i x : Nat} {p r : List Nat} (hf : Fit m n) (h : ord m n = p ++ i :: r) (hx : x < tk m p / 2 ^ (8 - m i)) : okTo m n p x (m i) p.length = false := by
  obtain ⟨j, hj, hp⟩ := hf.hit h hx
  unfold okTo
  rw [List.take_length, List.all_eq_false]
  exact ⟨j, hj, by simp [hp]⟩
theorem okTo_hit {m : Nat → Nat} {n i : Nat} {p r : List Nat} (hf : Fit m n) (h : ord m n = p ++ i :: r) : okTo m n p (tk m p / 2 ^ (8 - m i)) (m i) p.length = true := by
  unfold okTo
  rw [List.take_length, List.all_eq_true]
  intro j hj
  rw [hf.miss h j hj]
  rfl

theorem ahead_lt {m : Nat → Nat} {n s i j : Nat} (hi : i ≤ n) (h : j ∈ ahead m n s i) : j < n := by
  unfold ahead upto grp at h
  simp only [List.mem_append, List.mem_flatMap, List.mem_filter, List.mem_range] at h
  rcases h with ⟨_, _, h, _⟩ | ⟨h, _⟩ <;> omega

theorem wpList_appendSh {ops : Array Oper} {rest : List Oper} {o : Oper} {a : Act} {Q : Exit → Act → World → Prop} (hgd : o.guard = none) (s x : Operand)
    (ho : o.op = .call { callee := .builtin .append, args := #[s, x], argTypes := #[22, 22] }) {w0 wr : World} {B n : Nat} {m : Nat → Nat} {q p : List Nat} (v : Value) (hs : a.eval s = v) (h : ∃ V, Sh w0 wr B m n q p v V)
    (i : Nat) (hx : a.eval x = .slice (some ⟨wr.heap.size, 0, none⟩) 1 1) (hb : p.length ≤ 8)
    (k : ∀ v' w', (∃ V, Sh w0 w' B m n q (p ++ [i]) v' V) → wpList Try.prog ops Q rest (a.put o.dst v') w') : wpList Try.prog ops Q (o :: rest) a (wr.alloc (.cells #[.int .i64 (i : Int)] 3)) := by
  obtain ⟨i0, hi, hz0, hz1, hz2⟩ := info_parts info3
  obtain ⟨V, h⟩ := h
  refine wpList_append_own _ hgd s x 22 ho (B + 1) 3 i0 (.int .i64 0) 1 8 Try.underlying22 hi hz0 hz1 hz2 rfl (by decide) v p.length (iv (p.map (fun i : Nat => (i : Int)))) hs (h.own.alloc _) ⟨wr.heap.size, 0, none⟩ 1 1 [.int .i64 (i : Int)] hx rfl ?_ ?_ ?_ ?_ ?_ ?_
  · exact cell_one_new _ _ _
  · intro u hu; simp at hu; subst hu; rfl
  · unfold maxLen; omega
  · omega
  · have := h.row.lt
    simp
    omega
  · intro v' w' hown' hgr _
    exact k v' w' ⟨V, h.app hown' hgr⟩

theorem pow_wrap (s : Nat) (hs : s ≤ 8) : wrap64 ((2 : Int) ^ s) = ((2 ^ s : Nat) : Int) := by
  have h : s = 0 ∨ s = 1 ∨ s = 2 ∨ s = 3 ∨ s = 4 ∨ s = 5 ∨ s = 6 ∨ s = 7 ∨ s = 8 := by omega
  rcases h with rfl | rfl | rfl | rfl | rfl | rfl | rfl | rfl | rfl <;> simp [wrap64]

set_option maxHeartbeats 4000000 in
theorem shortest_any (z : Nm) (w : World) (hz : Nums w z) (h8 : z.z.length ≤ 8) (hok : z.z.any outB = false) (hk : ksum z.z ≤ 256) :
    Calls Try.prog 11 #[z.v] w fun e w' => (∃ (B : Nat) (g : List Wd), e = .returned (.tuple #[.slice (some ⟨B, 0, none⟩) g.length g.length, .bool true]) ∧ g.length = z.z.length ∧ g.map (·.l) = (List.range z.z.length).map (word (ml z.z) z.z.length) ∧ Wds w' (some ⟨B, 0, none⟩) g.length g) ∧ Ext w w' := by
  have hf := fit_of hok hk
  have HF : Hid (Fit (ml z.z) z.z.length) := hf
  have HV : Hid (∀ i, i < z.z.length → z.z.getD i 0 = (ml z.z i : Int)) := fun i hi => (ml_le hok i hi).2
  have HZ : Hid (Nums w z) := hz
  have DG : Hid (∀ (x s : Nat) (W : World), x ≤ 256 → s ≤ 8 → Calls Try.prog 23 #[.int .i64 (x : Int), .int .i64 (s : Int)] W fun e w' => (∃ B : Nat, e = .returned (.slice (some ⟨B, 0, none⟩) s s) ∧ Row w' B 4 (bv (dg x s))) ∧ Ext W w') := fun x s W hx hs => digits_any x s hx hs W
  have BG : Hid (∀ (x y : Wd) (W : World), Bits W x → Bits W y → Calls Try.prog 24 #[x.v, y.v] W fun e w' => e = .returned (.bool (x.l.isPrefixOf y.l)) ∧ Qt W w') := fun x y W hx hy => refBegins_any x y W hx hy
  clear hz hok hk hf
  obtain ⟨za, zc, zz⟩ := z
  simp only [Nm.v] at *
  generalize hml : ml zz = m at *
  generalize hn : zz.length = n at *
  have HN : Hid (zz.length = n) := hn
  clear hml hn
  have hmk := run_make_row' (P := Try.prog) 29 44 (.slice none 0 0) 24 Try.underlying29 info44 rfl .i64 .i64 n (by omega) (by omega)
  have st : Hid (∃ W, W = w.alloc (.cells (madeCells #[.slice none 0 0] n) 44) ∧ Sh w W w.heap.size m n [] [] (.slice none 0 0) (fun _ => ⟨none, 0, []⟩)) := by
    refine ⟨_, rfl, (Ext.refl w).alloc _, rfl, Row.madeF w 44 (.slice none 0 0) n _ (fun i _ => rfl), ?_, World.ownsRow_nil _ _ _ _⟩
    intro i _
    simp
  go_enter Try.func11, Try.ntmps11
  go_wp2
  obtain ⟨W, hW, hS⟩ := st.out
  rw [← hW]
  have HS : Hid (Sh w W w.heap.size m n [] [] (.slice none 0 0) (fun _ => ⟨none, 0, []⟩)) := hS
  clear hW hS st hmk
  go_loopg [5, 6, 7, 8, 9, 10, 11, 12, 14, 24, 48] 9 (fun gg v5 v6 _ _ _ _ _ _ _ _ _ wr => ∃ s : Nat, s ≤ 9 ∧ 9 - s ≤ gg ∧ v6 = .int .i64 s ∧ ∃ va vc, v5 = .slice va (upto m n s).length vc ∧ Aside (∃ V, Sh w wr w.heap.size m n (upto m n s) (upto m n s) (.slice va (upto m n s).length vc) V))
  case atStart => exact ⟨0, by omega, by omega, rfl, none, 0, by simp [upto], _, by simpa [upto] using HS.out⟩
  case round =>
    obtain ⟨s, hs9, hgg, rfl, va, vc, rfl, A⟩ := hrel
    by_cases hs : s ≤ 8
    · have hsz : (s : Int) ≤ 8 := by omega
      have A0 : Aside (∃ V, Sh w wr w.heap.size m n (ahead m n s 0) (ahead m n s 0) (.slice va (ahead m n s 0).length vc) V) := by rw [ahead_zero]; exact A.out
      clear A
      have HL : Hid ((upto m n s).length = (ahead m n s 0).length) := by show _ = _; rw [ahead_zero]
      go_wp2
      go_loopg [5, 7, 8, 9, 10, 11, 12, 14, 24, 48] n (fun gg v5 _ _ _ _ _ _ _ v24 _ wr => ∃ i : Nat, i ≤ n ∧ n - i ≤ gg ∧ v24 = .int .i64 i ∧ ∃ va vc, v5 = .slice va (ahead m n s i).length vc ∧ Aside (∃ V, Sh w wr w.heap.size m n (ahead m n s i) (ahead m n s i) (.slice va (ahead m n s i).length vc) V))
      case atStart => exact ⟨0, Nat.zero_le _, by omega, rfl, va, vc, by rw [HL.out], A0.out⟩
      case round =>
        obtain ⟨i, hin, hgg2, rfl, va, vc, rfl, A⟩ := hrel
        by_cases hlt : i < n
        · have hltz : (i : Int) < (n : Int) := by omega
          have hiz : i < zz.length := by rw [HN.out]; exact hlt
          obtain ⟨zb, zo, hza, ez⟩ := HZ.out.at i hiz
          simp only at hza ez
          subst hza
          have ezv : zz[i] = (m i : Int) := by
            rw [← HV.out i hlt]
            simp [List.getD_eq_getElem?_getD, hiz]
          rw [ezv] at ez
          obtain ⟨V, hS⟩ := A.out
          have ez1 := hS.ext.cell ez
          have SH : Hid (Sh w wr w.heap.size m n (ahead m n s i) (ahead m n s i) (.slice va (ahead m n s i).length vc) V) := hS
          have h8i := HF.out.le i hlt
          clear A hS ez ezv hiz
          by_cases hmi : m i = s
          · have hb : ((m i : Int) != (s : Int)) = false := by simp; omega
            obtain ⟨r, hr⟩ := ord_at hlt h8i
            rw [hmi] at hr
            have NXT : Hid (ahead m n s (i + 1) = ahead m n s i ++ [i]) := ahead_hit hmi
            have LT : Hid (∀ j ∈ ahead m n s i, j < n) := fun j hj => ahead_lt (Nat.le_of_lt hlt) hj
            have hX := HF.out.lt hr
            have WI : Hid (word m n i = dg (tk m (ahead m n s i) / 2 ^ (8 - s)) s) := by
              have := word_at hr
              rw [hmi] at this
              exact this
            have NO : Hid (∀ x, x < tk m (ahead m n s i) / 2 ^ (8 - s) → okTo m n (ahead m n s i) x s (ahead m n s i).length = false) := fun x hx => by
              have := okTo_less HF.out hr (by rw [hmi]; exact hx)
              rw [hmi] at this
              exact this
            have YES : Hid (okTo m n (ahead m n s i) (tk m (ahead m n s i) / 2 ^ (8 - s)) s (ahead m n s i).length = true) := by
              have := okTo_hit HF.out hr
              rw [hmi] at this
              exact this
            have HMI : Hid (m i = s) := hmi
            have NEW : Hid (i ∉ ahead m n s i) := by
              have hnd := nodup_of_sorted (ord_sorted m n)
              rw [hr] at hnd
              intro h
              exact (List.nodup_append.1 hnd).2.2 i h i (by simp) rfl
            have hpl : (ahead m n s i).length < n := by
              have := ord_length HF.out.le
              rw [hr] at this
              simp at this
              omega
            rw [hmi] at hX hb ez1
            clear hmi hr h8i
            generalize ahead m n s i = p at *
            generalize tk m p / 2 ^ (8 - s) = X at *
            have hX8 : X ≤ 256 := by
              have : 2 ^ s ≤ 2 ^ 8 := Nat.pow_le_pow_right (by omega) hs
              omega
            have HW : Hid (wrap64 ((2 : Int) ^ s) = ((2 ^ s : Nat) : Int)) := pow_wrap s hs
            generalize 2 ^ s = P at *
            go_wp2
            go_loopg [9, 10, 11, 12, 14, 48] (X + 1) (fun gg v9 v10 _ _ _ _ wi => ∃ x : Nat, ((v9 = .bool false ∧ v10 = .int .i64 x ∧ x ≤ X ∧ X + 1 - x ≤ gg ∧ Aside (Sh w wi w.heap.size m n p p (.slice va p.length vc) V)) ∨ (v9 = .bool true ∧ v10 = .int .i64 x ∧ x = X + 1 ∧ Aside (∃ V', Sh w wi w.heap.size m n (p ++ [i]) p (.slice va p.length vc) V'))))
            case atStart => exact ⟨0, .inl ⟨rfl, rfl, Nat.zero_le _, by omega, SH.out⟩⟩
            case round =>
              obtain ⟨x, (⟨rfl, rfl, hx, hgg3, A⟩ | ⟨rfl, rfl, hx, A⟩)⟩ := hrel
              · have hxz : (x : Int) < (P : Int) := by omega
                have dgc := DG.out x s wr (by omega) hs
                have SH0 : Hid (Sh w wr w.heap.size m n p p (.slice va p.length vc) V) := A.out
                clear A
                have hw := HW.out
                go_wp2_with fail
                clear hw
                refine dgc.mono ?_
                rintro e w3 ⟨⟨b, rfl, hb3⟩, he3⟩
                have SH3 : Hid (Sh w w3 w.heap.size m n p p (.slice va p.length vc) V) := SH0.out.mono he3
                have RB : Hid (Row w3 b 4 (bv (dg x s))) := hb3
                clear hb3 he3 SH0 dgc
                go_wp2
                go_loopg [12, 14, 48] p.length (fun gg v12 _ v48 wj => ∃ k : Nat, k ≤ p.length ∧ p.length - k ≤ gg ∧ v48 = .int .i64 k ∧ v12 = .bool (okTo m n p x s k) ∧ Aside (Qt w3 wj))
                case atStart => exact ⟨0, Nat.zero_le _, by omega, rfl, by rw [okTo_zero], Qt.refl w3⟩
                case round =>
                  obtain ⟨k, hk, hgg4, rfl, rfl, Q⟩ := hrel
                  by_cases hkp : k < p.length
                  · have hkz : (k : Int) < (p.length : Int) := by omega
                    obtain ⟨gb, hva, eg⟩ := SH3.out.at k hkp
                    have nk : Hid (okTo m n p x s (k + 1) = (okTo m n p x s k && !(word m n p[k]).isPrefixOf (dg x s))) := okTo_succ m n p x s k hkp
                    have hjn : p[k] < n := LT.out _ (List.getElem_mem hkp)
                    have hjp : p[k] ∈ p := List.getElem_mem hkp
                    generalize p[k] = j at *
                    have eg1 := Q.out.cell eg
                    have ec := Q.out.cell (SH3.out.row.cellF j hjn)
                    have bw : Hid (∀ W, Qt wr W → Calls Try.prog 24 #[(V j).v, .slice (some ⟨b, 0, none⟩) s s] W fun e w' => e = .returned (.bool ((word m n j).isPrefixOf (dg x s))) ∧ Qt W w') := fun W hq => by
                      have e3 := (Q.out.trans hq).ext
                      have hb1 := (SH3.out.bits HF.out.le j hjn).ext e3
                      have hb2 : Bits W ⟨some ⟨b, 0, none⟩, s, dg x s⟩ := by
                        have := (RB.out.ext e3).bits (by rw [dg_length]; unfold maxLen; omega)
                        rw [dg_length] at this
                        exact this
                      have := BG.out _ _ W hb1 hb2
                      obtain ⟨c, h1, _⟩ := (SH3.out.words j hjn).1 hjp
                      have hvl : (V j).l = word m n j := by rw [h1]
                      rw [hvl] at this
                      simpa only [Wd.v, dg_length] using this
                    clear eg hjp
                    subst hva
                    generalize (word m n j).isPrefixOf (dg x s) = pr at *
                    generalize V j = vj at *
                    obtain ⟨vja, vjc, vjl⟩ := vj
                    simp only [Wd.v] at ec bw
                    generalize vjl.length = vjn at *
                    have hjz : (j : Int) < (n : Int) := by omega
                    cases hok : okTo m n p x s k with
                    | true =>
                      rw [hok, Bool.true_and] at nk
                      clear hok
                      go_wp2_with fail
                      refine (bw.out wr (Qt.refl wr)).mono ?_
                      rintro e w4 ⟨rfl, hq4⟩
                      have Q4 : Hid (Qt w3 w4) := Q.out.trans hq4
                      clear hq4
                      go_wp2
                      go_roundg (p.length - (k + 1))
                      case measure => omega
                      case rel => exact ⟨k + 1, by omega, by omega, by go_num, by rw [nk.out], Q4.out⟩
                    | false =>
                      rw [hok, Bool.false_and] at nk
                      clear hok
                      go_wp2
                      go_roundg (p.length - (k + 1))
                      case measure => omega
                      case rel => exact ⟨k + 1, by omega, by omega, by go_num, by rw [nk.out], Q.out⟩
                  · have hkp' : k = p.length := by omega
                    by_cases hxX : x < X
                    · have nf : okTo m n p x s k = false := by rw [hkp']; exact NO.out x hxX
                      rw [nf]
                      have SH4 : Hid (Sh w wr w.heap.size m n p p (.slice va p.length vc) V) := SH3.out.mono Q.out.ext
                      clear nf
                      go_wp2
                      go_roundg (X + 1 - (x + 1))
                      case measure => omega
                      case rel => exact ⟨x + 1, .inl ⟨rfl, by go_num, by omega, by omega, SH4.out⟩⟩
                    · have hxe : x = X := by omega
                      have yf : okTo m n p x s k = true := by rw [hkp', hxe]; exact YES.out
                      rw [yf]
                      have SH4 := SH3.out.mono Q.out.ext
                      have c1 : ∃ u, wr.cell? ⟨w.heap.size, i, none⟩ = some u := ⟨_, SH4.row.cellF i hlt⟩
                      obtain ⟨u, c1⟩ := c1
                      have f1 := SH4.row.fr i
                      have SH5 : Hid (∃ V', Sh w (wr.setCell ⟨w.heap.size, i, none⟩ (.slice (some ⟨b, 0, none⟩) s s)) w.heap.size m n (p ++ [i]) p (.slice va p.length vc) V') := by
                        have := SH4.store (i := i) (b := b) (by rw [WI.out, ← hxe]; exact RB.out.ext Q.out.ext)
                        rw [HMI.out] at this
                        exact ⟨_, this⟩
                      clear yf SH4
                      go_wp2
                      go_roundg 0
                      case measure => omega
                      case rel => exact ⟨X + 1, .inr ⟨rfl, by go_num, rfl, SH5.out⟩⟩
              · have SH5 : Hid (∃ V', Sh w wr w.heap.size m n (p ++ [i]) p (.slice va p.length vc) V') := A.out
                clear A SH
                have hpl8 : p.length ≤ 8 := by omega
                have fin : ∀ (v' : Value) (w1 : World), (∃ V', Sh w w1 w.heap.size m n (p ++ [i]) (p ++ [i]) v' V') → Hid (∃ va vc, v' = .slice va (ahead m n s (i + 1)).length vc ∧ ∃ V', Sh w w1 w.heap.size m n (ahead m n s (i + 1)) (ahead m n s (i + 1)) (.slice va (ahead m n s (i + 1)).length vc) V') := fun v' w1 ⟨V', h⟩ => by
                  obtain ⟨va', vc', hv⟩ := h.form
                  subst hv
                  show ∃ va vc, _
                  rw [NXT.out]
                  exact ⟨va', vc', rfl, V', h⟩
                by_cases hxp : (x : Int) < wrap64 ((2 : Int) ^ s)
                all_goals
                  clear hx hX hX8 hs hsz hpl hgg
                  go_wp2_with (at_builtin; refine wpList_appendSh rfl _ _ rfl _ (by rfl) SH5.out i (by rfl) hpl8 ?_; clear hxp; intro v' w1 B5; obtain ⟨va', vc', hv', B6⟩ := (fin v' w1 B5).out; clear B5 fin; subst hv')
                  go_roundg (n - (i + 1))
                  case measure => omega
                  case rel => exact ⟨i + 1, by omega, by omega, by go_num, va', vc', rfl, B6⟩
          · have hb : ((m i : Int) != (s : Int)) = true := by simp; omega
            have NXT : Hid (ahead m n s (i + 1) = ahead m n s i) := ahead_miss hmi
            clear hmi
            generalize m i = mi at *
            go_wp2
            go_roundg (n - (i + 1))
            case measure => omega
            case rel => exact ⟨i + 1, by omega, by omega, by go_num, va, vc, by rw [NXT.out], V, by rw [NXT.out]; exact SH.out⟩
        · have hi' : i = n := by omega
          have hal : ahead m n s i = upto m n (s + 1) := by rw [hi', ahead_all]
          rw [hal] at A ⊢
          have A2 : Hid (∃ V, Sh w wr w.heap.size m n (upto m n (s + 1)) (upto m n (s + 1)) (.slice va (upto m n (s + 1)).length vc) V) := A.out
          clear A hal
          generalize hgl : (upto m n (s + 1)).length = al at *
          have HGL : Hid ((upto m n (s + 1)).length = al) := hgl
          clear hgl
          go_wp2
          go_roundg (9 - (s + 1))
          case measure => omega
          case rel => exact ⟨s + 1, by omega, by omega, by go_num, va, vc, by rw [HGL.out], by rw [HGL.out]; exact A2.out⟩
    · have hs' : s = 9 := by omega
      have hsz : ¬ (s : Int) ≤ 8 := by omega
      have F : Hid ((∃ g : List Wd, g.length = n ∧ g.map (·.l) = (List.range n).map (word m n) ∧ Wds wr (some ⟨w.heap.size, 0, none⟩) n g) ∧ Ext w wr) := by
        obtain ⟨V, hS⟩ := A.out
        refine ⟨?_, hS.ext⟩
        have hG : Given w wr w.heap.size m n (ord m n) V := by
          rw [hs'] at hS
          refine ⟨hS.ext, Nat.le_refl _, hS.row, fun i hi => hS.bits HF.out.le i hi, fun i hi => ?_⟩
          have hm := (mem_ord HF.out.le i).2 hi
          obtain ⟨b, h1, _⟩ := (hS.words i hi).1 hm
          rw [h1, if_pos hm]
        exact hG.code h8 (fun i hi => (mem_ord HF.out.le i).2 hi)
      clear A hs'
      generalize (upto m n s).length = al at *
      go_wp2
      go_ret2
      obtain ⟨⟨g, hg1, hg2, hg3⟩, hE⟩ := F.out
      exact ⟨⟨w.heap.size, g, by rw [hg1]; rfl, hg1, hg2, by rw [hg1]; exact hg3⟩, hE⟩

end Go.Proofs.Ytnjfefipgldkfab
