/- A row of texts, from a place on. -/
import Derived.Test.YtghdafgpdhbohaaTxtMake
namespace Go.Proofs.Ytghdafgpdhbohaa.SetsT
open Go.RowKit Go.Proofs.Ytghdafgpdhbohaa.Sets Go.Proofs.Ytghdafgpdhbohaa.Dig Go.Proofs.Ytghdafgpdhbohaa.Mem
set_option linter.unusedVariables false
set_option linter.unusedSimpArgs false

/-- A row, from a place on. -/
theorem slice_from {w : World} {a : Option Addr} {c : Nat} {l : List (List UInt8)} (h : RowT w a c l) (m : Nat) (hm : m ≤ l.length) :
    ∃ a2 c2, (∀ W : World, (Instr.slice 41 (.slice a l.length c) (some (.int .i64 (m : Int))) none none).run Try.prog W = .ok (.slice a2 (l.drop m).length c2) W) ∧ ∀ W, RowT W a c l → RowT W a2 c2 (l.drop m) := by
  have hel : Try.prog.elem 41 = 9 := by kernel_rfl
  have hu : Try.prog.underlying 41 = some (.slice (Try.prog.elem 41)) := by rw [hel]; exact Try.underlying41
  have hr : ∀ W : World, (Instr.slice 41 (.slice a l.length c) (some (.int .i64 (m : Int))) none none).run Try.prog W = .ok (sliced a m l.length c 1) W := fun W => by
    rw [run_slice_l (t := 41) (a := a) (len := l.length) (cap := c) (w := W) hu .i64 (m : Int) (by omega) (by omega), hel, Try.sizeOf9]
    simp [Result.andThen]
  refine ⟨if c = m then a else a.map (·.add (m * 1)), c - m, fun W => by rw [hr W, List.length_drop]; rfl, fun W hW => ⟨by have := hW.cap; rw [List.length_drop]; omega, by have := hW.le; rw [List.length_drop]; omega, fun i hi => ?_, fun e => ?_, fun x hx => hW.wf x (List.mem_of_mem_drop hx)⟩⟩
  · rw [List.length_drop] at hi
    have hc := hW.cap
    obtain ⟨b, off, rfl, hcell⟩ := hW.rd (m + i) (by omega)
    have e : (l.drop m).getD i [] = l.getD (m + i) [] := by simp [List.getD_eq_getElem?_getD]
    refine ⟨b, off + m, ?_, ?_⟩
    · rw [if_neg (by omega), Nat.mul_one]
      simp [Addr.add_lit]
    · rw [e, Nat.add_assoc]
      exact hcell
  · have : a = none := by
      split at e
      · exact e
      · cases a with
        | none => rfl
        | some x => simp at e
    have := hW.nil this
    omega
end Go.Proofs.Ytghdafgpdhbohaa.SetsT
