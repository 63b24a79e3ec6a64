/-
  Phrases as keys of a map.
-/
import Derived.Test.YtjgheojfdkfmkaaPh
import Derived.Test.YtjgheojfdkfmkaaLz
import Derived.Maps.OwnSet
import Derived.DeepKeys4
namespace Go.Proofs.Ytjgheojfdkfmkaa
open Go.RowKit Go.Maps

theorem laidOut : laidOutB Try.prog = true := by kernel_rfl
theorem row35 : (35 : TypeId) < Try.prog.types.size := of_decide_eq_true (by kernel_rfl)
theorem cells35 : Try.prog.cellsOf 35 = 2 := by kernel_rfl
theorem wide35 : (match Try.prog.underlying 35 with | some (.array _ _) | some (.struct _) => true | _ => false) = true := by rw [Try.underlying35]
theorem law35 : Keyed Try.prog 35 := Keyed.of_law (deep_law_laid laidOut (m := 2) (by omega) row35 (by kernel_rfl) wide35)
theorem zero3 (w : World) : (zeroValue 3).run Try.prog w = .ok (.int .i64 0) w := by kernel_rfl
theorem under36 : Try.prog.underlying 36 = some (.map 35 3) := by kernel_rfl
theorem formed35 {c0 c1 : Value} : (Value.agg #[c0, c1]).formed Try.prog 35 = true := by simp [Value.formed, Try.underlying35, cells35]

theorem kt35 : Try.prog.keyType 35 = true := by kernel_rfl
theorem cells3 : Try.prog.cellsOf 3 = 1 := by kernel_rfl
theorem cells5 : Try.prog.cellsOf 5 = 1 := by kernel_rfl

theorem key_some {p b : Int} (hp : (Lit.int .i64 p).wf = true) (hb : (Lit.int .u8 b).wf = true) : ∃ l, keyOf Try.prog 35 (.agg #[.int .i64 p, .int .u8 b]) = some l := by
  obtain ⟨m, hm⟩ : ∃ m, Try.prog.types.size = m + 1 := ⟨58, by kernel_rfl⟩
  have k3 : Try.prog.keyLits (m + 1) 3 [.int .i64 p] = some [.int .i64 p] := by simp [Program.keyLits, Try.underlying3, hp]
  have k5 : Try.prog.keyLits (m + 1) 5 [.int .u8 b] = some [.int .u8 b] := by simp [Program.keyLits, Try.underlying5, hb]
  have k35 : Try.prog.keyLits (m + 1 + 1) 35 [.int .i64 p, .int .u8 b] = some [.int .i64 p, .int .u8 b] := by
    unfold Program.keyLits
    rw [Try.underlying35]
    simp [cells35, cells3, cells5, k3, k5]
  unfold keyOf
  rw [Try.underlying35]
  simp only [formed35, kt35, Bool.and_self, if_true]
  rw [hm]
  have hc : (Value.agg #[.int .i64 p, .int .u8 b]).cells.toList = [.int .i64 p, .int .u8 b] := rfl
  rw [hc, k35]
  exact ⟨_, rfl⟩

/-- What a phrase reads as, as a key. -/
noncomputable def kl (p b : Int) : Lit := (keyOf Try.prog 35 (.agg #[.int .i64 p, .int .u8 b])).getD (.bool false)

theorem key_kl {p b : Int} (hp : (Lit.int .i64 p).wf = true) (hb : (Lit.int .u8 b).wf = true) : keyOf Try.prog 35 (.agg #[.int .i64 p, .int .u8 b]) = some (kl p b) := by
  obtain ⟨l, h⟩ := key_some hp hb
  unfold kl
  rw [h]
  rfl

theorem kl_inj {p b p' b' : Int} (hp : (Lit.int .i64 p).wf = true) (hb : (Lit.int .u8 b).wf = true) (hp' : (Lit.int .i64 p').wf = true) (hb' : (Lit.int .u8 b').wf = true) (h : kl p b = kl p' b') : (p, b) = (p', b') := by
  have h1 := key_kl hp hb
  have h2 := key_kl hp' hb'
  rw [h] at h1
  have := law35.inj h1 h2
  injection this with e
  simp at e
  rw [e.1, e.2]

/-- The number of a phrase in a list; 0: it is none. -/
def nm (l : List (Int × Int)) (x : Int × Int) : Nat := if x ∈ l then l.idxOf x + 1 else 0

theorem nm_put_same {l : List (Int × Int)} {x : Int × Int} (h : x ∉ l) : nm (l ++ [x]) x = l.length + 1 := by
  unfold nm
  rw [if_pos (by simp), List.idxOf_append, if_neg h]
  simp

theorem nm_put_other {l : List (Int × Int)} {x y : Int × Int} (h : y ≠ x) : nm (l ++ [x]) y = nm l y := by
  unfold nm
  by_cases hy : y ∈ l
  · rw [if_pos (by simp [hy]), if_pos hy, List.idxOf_append, if_pos hy]
  · rw [if_neg (by simp [hy, h]), if_neg hy]

/-- The map tells the number of each phrase. -/
def MapOk (l : List (Int × Int)) (D : DataW Unit) : Prop := ∀ q b : Int, (Lit.int .i64 q).wf = true → (Lit.int .u8 b).wf = true → D.atKey (kl q b) (.lit (.int .i64 0)) = .lit (.int .i64 (nm l (q, b) : Nat))

theorem MapOk.nil : MapOk [] (.map []) := by
  intro q b _ _
  simp [DataW.atKey, nm]

theorem MapOk.put {l : List (Int × Int)} {D : DataW Unit} (h : MapOk l D) (hD : IsMap D) {q b : Int} (hq : (Lit.int .i64 q).wf = true) (hb : (Lit.int .u8 b).wf = true) (hn : (q, b) ∉ l) :
    MapOk (l ++ [(q, b)]) (D.put (kl q b) (.lit (.int .i64 ((l.length + 1 : Nat) : Int)))) := by
  intro q' b' hq' hb'
  by_cases he : (q', b') = (q, b)
  · injection he with e1 e2
    subst e1 e2
    rw [atKey_put_same hD (law35.key (key_kl hq hb)), nm_put_same hn]
  · rw [atKey_put_other (fun e => he (kl_inj hq' hb' hq hb e)), nm_put_other he]
    exact h q' b' hq' hb'

end Go.Proofs.Ytjgheojfdkfmkaa
