/- Joined out of the texts MrgLaw, in that order. -/
import Derived.Test.YtkjdjmcecjaolaaAll11
/- What a law of merge knows behind a run. -/
namespace Go.Proofs.Ytkjdjmcecjaolaa.Mrg
open Go.RowKit Go.Proofs.Ytkjdjmcecjaolaa.Dig Go.Proofs.Ytkjdjmcecjaolaa.Mem Go.Proofs.Ytkjdjmcecjaolaa.Dq Go.Proofs.Ytkjdjmcecjaolaa.Thing Go.Proofs.Ytkjdjmcecjaolaa.Own Go.Proofs.Ytkjdjmcecjaolaa.Sets Go.Proofs.Ytkjdjmcecjaolaa.DqI Go.Proofs.Ytkjdjmcecjaolaa.Pick
set_option linter.unusedVariables false
set_option linter.unusedSimpArgs false

/-- A row that is read, and a box of three numbers. -/
structure LK (w : World) (B : Nat) (z0 z1 z2 : Int) (oa : Option Addr) (oc : Nat) (out : List Int) (W : World) : Prop where
  below : Below w.heap.size w W
  box : Is W B #[.int .i64 z0, .int .i64 z1, .int .i64 z2]
  row : RowI W oa oc out
section
variable {w W W' : World} {B oc : Nat} {z0 z1 z2 : Int} {oa : Option Addr} {out : List Int}
theorem LK.keep (h : LK w B z0 z1 z2 oa oc out W) (hb : Below W.heap.size W W') : LK w B z0 z1 z2 oa oc out W' := ⟨h.below.trans (hb.mono h.below.size), h.box.below hb, h.row.keep hb⟩
theorem LK.cells (h : LK w B z0 z1 z2 oa oc out W) : W.cell? ⟨B, 0, none⟩ = some (.int .i64 z0) ∧ W.cell? ⟨B, 1, none⟩ = some (.int .i64 z1) ∧ W.cell? ⟨B, 2, none⟩ = some (.int .i64 z2) := ⟨h.box.cell 0 rfl, h.box.cell 1 rfl, h.box.cell 2 rfl⟩
/-- Rows that are few, as an argument. -/
theorem few_rows {F : Nat → Prop} {w : World} {a : Option Addr} {n c : Nat} {ls : List (List Int)} (h : ListsAt F w (.slice a n c) ls) (hf : fewL ls = true) : n = ls.length ∧ RowsI w a c ls ∧ n ≤ 20 ∧ (∀ l ∈ ls, l.length ≤ 40) ∧ cnt ls ≤ 800 := by
  have h1 := fewL_iff.1 hf
  obtain ⟨e, hr⟩ := rowsI_of h ⟨by omega, fun l hl => by have := h1.2 l hl; omega⟩
  exact ⟨e, hr, by omega, h1.2, few_cnt h1⟩
theorem same_z {x y : Option Addr} {c d n m : Nat} {a b : List Int} {w : World} (ha : RowI w x c a) (hb : RowI w y d b) (hn : n = a.length) (hm : m = b.length) {t : Bool} (ht : t = decide (a = b)) :
    Calls Try.prog 14 #[.slice x n c, .slice y m d] w fun e w' => e = .returned (.bool t) ∧ Below w.heap.size w w' := by
  subst hn hm ht
  exact same_is x y c d a b w ha hb
end
end Go.Proofs.Ytkjdjmcecjaolaa.Mrg
