/- The sets that Check keeps: of numbers, and of values with their keys. -/
import Derived.Test.YtigmgkcojifbcaaHistKeys
namespace Go.Proofs.Ytigmgkcojifbcaa.Keys
open Go.RowKit Go.Proofs.Ytigmgkcojifbcaa.Dig Go.Proofs.Ytigmgkcojifbcaa.Mem Go.Maps
set_option linter.unusedVariables false
set_option linter.unusedSimpArgs false

set_option maxRecDepth 100000 in
theorem rowEApp : (114 : TypeId) < Try.prog.types.size := of_decide_eq_true (by kernel_rfl)
theorem wideEApp : (match Try.prog.underlying 114 with | some (.array _ _) | some (.struct _) => true | _ => false) = true := by kernel_rfl
set_option maxRecDepth 100000 in
theorem lawEApp : Keyed Try.prog 114 := Keyed.of_law (deep_law_laid Frame.laidOut (m := 2) (by omega) rowEApp (by kernel_rfl) wideEApp)
theorem ktEApp : Try.prog.keyType 114 = true := by kernel_rfl
theorem cellsEApp : Try.prog.cellsOf 114 = 2 := by kernel_rfl
theorem keyEApp {k v : Int} (hk : (Lit.int .i64 k).wf = true) (hv : (Lit.int .i64 v).wf = true) : keyOf Try.prog 114 (.agg #[.int .i64 k, .int .i64 v]) = some (.string (keyBytes [.int .i64 k, .int .i64 v])) := by
  obtain ⟨m, hm⟩ := sizes
  unfold keyOf
  simp only [Try.underlying114]
  rw [if_pos (by simp [ktEApp, Value.formed, Try.underlying114, cellsEApp]), hm]
  simp [Program.keyLits, Try.underlying114, cellsEApp, cellsInt, Value.cells, go_sem, hk, hv, Try.underlying3]
theorem eappIs : KeyIs 114 appV appL appOk := ⟨lawEApp, fun x hx => keyEApp hx.1 hx.2, fun x y h => by simp [appV] at h; exact Prod.ext h.1 h.2⟩
def idV (n : Int) : Value := .int .i64 n
def idL (n : Int) : Lit := .int .i64 n
theorem keyId {n : Int} (hw : (Lit.int .i64 n).wf = true) : keyOf Try.prog 3 (idV n) = some (idL n) := by
  unfold keyOf idV idL
  simp [Try.underlying3, mapKey, hw]
theorem idIs : KeyIs 3 idV idL nameOk := ⟨int_keyed Try.underlying3, fun x hx => keyId hx, fun x y h => by simpa [idV] using h⟩
def Ids (w : World) (b n : Nat) (P : Int → Bool) : Prop := SetAt 3 idV idL nameOk w b n P
def EVals (w : World) (b n : Nat) (P : Int × Int → Bool) : Prop := SetAt 114 appV appL appOk w b n P
theorem Ids.keep {w w' : World} {b n : Nat} {P : Int → Bool} {S : Nat → Prop} (h : Ids w b n P) (ho : Only S w w') (hb : ¬ S b) : Ids w' b n P := SetAt.keep h ho hb
theorem EVals.keep {w w' : World} {b n : Nat} {P : Int × Int → Bool} {S : Nat → Prop} (h : EVals w b n P) (ho : Only S w w') (hb : ¬ S b) : EVals w' b n P := SetAt.keep h ho hb
theorem Ids.look {w : World} {b n : Nat} {P : Int → Bool} (h : Ids w b n P) {x : Int} (hx : (Lit.int .i64 x).wf = true) : (Instr.lookup 56 (.map (some b)) (.int .i64 x) true).run Try.prog w = .ok (.tuple #[.agg #[], .bool (P x)]) w := SetAt.look h idIs Try.underlying56 hx
theorem EVals.look {w : World} {b n : Nat} {P : Int × Int → Bool} (h : EVals w b n P) {x y : Int} (hx : (Lit.int .i64 x).wf = true) (hy : (Lit.int .i64 y).wf = true) : (Instr.lookup 57 (.map (some b)) (.agg #[.int .i64 x, .int .i64 y]) true).run Try.prog w = .ok (.tuple #[.agg #[], .bool (P (x, y))]) w := SetAt.look (x := (x, y)) h eappIs Try.underlying57 ⟨hx, hy⟩
theorem Ids.store {w : World} {b n : Nat} {P : Int → Bool} (h : Ids w b n P) {x : Int} (hx : (Lit.int .i64 x).wf = true) (hn : n < 1000000) :
    ∃ w', (Instr.mapUpdate 56 (.map (some b)) (.int .i64 x) (.agg #[])).run Try.prog w = .ok () w' ∧ Ids w' b (n + 1) (fun y => P y || x == y) ∧ Only (fun k => k = b) w w' :=
  SetAt.store h idIs Try.underlying56 hx (by unfold maxLen; omega) (by simp) (fun y hy => by simp [Ne.symm hy])
theorem EVals.store {w : World} {b n : Nat} {P : Int × Int → Bool} (h : EVals w b n P) {x y : Int} (hx : (Lit.int .i64 x).wf = true) (hy : (Lit.int .i64 y).wf = true) (hn : n < 1000000) :
    ∃ w', (Instr.mapUpdate 57 (.map (some b)) (.agg #[.int .i64 x, .int .i64 y]) (.agg #[])).run Try.prog w = .ok () w' ∧ EVals w' b (n + 1) (fun p => P p || (x == p.1 && y == p.2)) ∧ Only (fun k => k = b) w w' :=
  SetAt.store (x := (x, y)) h eappIs Try.underlying57 ⟨hx, hy⟩ (by unfold maxLen; omega) (by simp) (fun p hp => by
    by_cases e : x = p.1
    · by_cases e2 : y = p.2
      · exact absurd (Prod.ext e.symm e2.symm) hp
      · simp [e2]
    · simp [e])
end Go.Proofs.Ytigmgkcojifbcaa.Keys
