/-
  For any text and any bytes behind it, together of bulk at most 1048576: no two phrases are the same but perhaps the last, and with bytes behind it the text has no fewer: PhraseNew returns true, and changes nothing.
-/
import Derived.Test.YtjgheojfdkfmkaaOpen
import Derived.Test.YtjgheojfdkfmkaaNew2
import Derived.JoinedCond
namespace Go.Proofs.Ytjgheojfdkfmkaa
open Go.ChangeShapes Go.WideShapes Go.ChangeAt Go.RowKit Go.Deep

/-- A datum weighs something. -/
theorem weighs {H : Type} : ∀ d : DataW H, Rows.uptoBulk d ≠ 0
  | .lit (.string b) => by rw [Rows.uptoBulk]; omega
  | .lit (.bool _) => by simp [Rows.uptoBulk]
  | .lit (.int _ _) => by simp [Rows.uptoBulk]
  | .lit (.float _ _) => by simp [Rows.uptoBulk]
  | .lit .nil => by simp [Rows.uptoBulk]
  | .nil => by simp [Rows.uptoBulk]
  | .ptr _ => by rw [Rows.uptoBulk]; omega
  | .slice _ _ => by rw [Rows.uptoBulk]; omega
  | .agg _ => by rw [Rows.uptoBulk]; omega
  | .iface _ _ => by rw [Rows.uptoBulk]; omega
  | .map _ => by rw [Rows.uptoBulk]; omega
  | .held _ => by simp [Rows.uptoBulk]

theorem many_weigh {H : Type} : ∀ l : List (DataW H), l.length ≤ Rows.uptoBulkAll l
  | [] => Nat.zero_le _
  | d :: r => by
    have h1 := weighs d
    have h2 := many_weigh r
    rw [Rows.uptoBulkAll, List.length_cons]
    omega

/-- What a list of bytes weighs. -/
theorem word_weighs {H : Type} {d : DataW H} {n : Nat} (h : n = 0 ∨ ∃ es sp, d = .slice es sp ∧ es.length = n) : n ≤ Rows.uptoBulk d := by
  rcases h with rfl | ⟨es, sp, rfl, rfl⟩
  · exact Nat.zero_le _
  · have := many_weigh es
    rw [Rows.uptoBulk]
    omega

theorem phraseNew_walk (x y : Wd) (w : World) (hx : Bits w x) (hy : Bits w y) (bx : Byt x.l) (by' : Byt y.l) (hs : x.l.length + y.l.length ≤ 1048576) : Calls Try.prog 6 #[x.v, y.v] w fun e w' => e = .returned (.bool true) ∧ Ext w w' := by
  by_cases h : 64 < x.l.length + y.l.length
  · exact new_large x y w hx hy bx h (by omega)
  · exact new_small x y w hx hy bx by' (by omega)

set_option maxRecDepth 100000 in
theorem phraseNewUpto_lifted (os : Os) (started : os.Started) (H : Type) (enc : TypeId × Value → H) (F : Stop.Interp) :
    ReturnsInHanded {} Try.checked os 6 .any ((Rows.OpenSpec.upto Rows.phraseNewSpec).pre6 enc Try.prog Try.f6 Rows.phraseNewUptoRow.domain false) (((Rows.OpenSpec.upto Rows.phraseNewSpec).at F).post enc Try.prog Try.f6 false true false false) := by
  refine returnsInHanded_of_cond (C := Try.checked) (s := Rows.OpenSpec.upto Rows.phraseNewSpec) (k := Rows.uptoSmall) rfl own started (by kernel_rfl) Try.func6
    (OpenSpec.witness (enc := enc) (C := Try.checked) (s := Rows.OpenSpec.upto Rows.phraseNewSpec) (k := Rows.uptoSmall) rfl false ⟨#[], #[.slice none 0 0, .slice none 0 0], []⟩ 8 (by kernel_rfl) (by kernel_rfl) (by kernel_rfl)
      (x := ([.nil, .nil], [], [])) (by kernel_rfl) rfl (by kernel_rfl)) ?_
  intro W base args ds gs before hval0 hW _ hk _
  have hval : ∀ (j : Nat) t v, Try.f6.params[j]? = some t → args[j]? = some v → Value.okWide Try.prog W .any base t v := hval0
  have hW' := hW
  obtain ⟨p, q, hA0, hV, rfl, hfz, hnd⟩ := hW
  have hA : DataW.TrodAll enc Try.prog W 0 (fun _ => true) true Try.f6.params.toList args.toList ds p := hA0
  rw [Try.params6] at hA hval
  obtain ⟨v0, vs0, d0, ds0, p0, q0, hargs, rfl, rfl, h0, r0⟩ := trodAll_cons hA
  obtain ⟨v1, vs1, d1, ds1, p1, q1, rfl, rfl, rfl, h1, r1⟩ := trodAll_cons r0
  obtain ⟨rfl, rfl, rfl⟩ := trodAll_nil r1
  obtain rfl : args = #[v0, v1] := by cases args; simp_all
  obtain ⟨rfl, rfl⟩ := trodVars_none hV
  have lt0 : ∀ x ∈ p0, x.block < W.heap.size := by obtain ⟨m, hm⟩ := h0; exact DataW.trod_lt m _ _ _ hm
  obtain ⟨x0, rfl, w0, y0, z0⟩ := open_word (hval 0 22 v0 rfl rfl) h0
  have lt1 : ∀ x ∈ p1, x.block < W.heap.size := by obtain ⟨m, hm⟩ := h1; exact DataW.trod_lt m _ _ _ hm
  obtain ⟨x1, rfl, w1, y1, z1⟩ := open_word (hval 1 22 v1 rfl rfl) h1
  have hsz : x0.l.length + x1.l.length ≤ 1048576 := by
    have hb : Rows.uptoBulkAll ([d0, d1] ++ []) ≤ 1048576 := of_decide_eq_true hk
    rw [List.append_nil, Rows.uptoBulkAll, Rows.uptoBulkAll, Rows.uptoBulkAll] at hb
    have e0 := word_weighs z0
    have e1 := word_weighs z1
    omega
  clear hA0 hval0
  refine (phraseNew_walk x0 x1 W w0 w1 y0 y1 hsz).mono fun e W' ⟨he, bel⟩ => ?_
  subst he
  exact ⟨_, rfl, _, _, _, [], _, [], hW', trodAll_mk1 (shut_bool Try.underlying4 _), (trodAll_cons_mk (Below.trod laidOut (by kernel_rfl) (of_decide_eq_true (by kernel_rfl)) h0 bel lt0) (trodAll_cons_mk (Below.trod laidOut (by kernel_rfl) (of_decide_eq_true (by kernel_rfl)) h1 bel lt1) trodAll_mk0)), rfl, bel.frame _, fun h => by cases h⟩

theorem phraseNewUpto_holds : Rows.PhraseNewUptoSaid :=
  OpenClaim.holds_of_cond 6 Try.f6 rfl rfl rfl rfl rfl rfl rfl ⟨rfl, rfl, rfl, rfl, rfl⟩ rfl rfl rfl rfl rfl (by kernel_rfl) Try.func6 (by kernel_rfl)
    (of_decide_eq_true (by kernel_rfl)) (by unfold Func.isWrapper; rw [if_neg (of_decide_eq_false (by kernel_rfl))]; exact ⟨rfl, rfl⟩)
    (fun os started H enc _ F => phraseNewUpto_lifted os started H enc F)

#print axioms phraseNewUpto_holds

end Go.Proofs.Ytjgheojfdkfmkaa
