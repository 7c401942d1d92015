/- One step, by the program and by the document, whatever the state: what stepS says. -/
import Derived.Test.YtjdcmeclmaljeaaPickProg
import Derived.Test.YtjdcmeclmaljeaaPickRef
namespace Go.Proofs.Ytjdcmeclmaljeaa.Pick
open Go.RowKit Go.Proofs.Ytjdcmeclmaljeaa.Dig Go.Proofs.Ytjdcmeclmaljeaa.Mem Go.Proofs.Ytjdcmeclmaljeaa.Dq Go.Proofs.Ytjdcmeclmaljeaa.Thing Go.Proofs.Ytjdcmeclmaljeaa.Sets
set_option linter.unusedVariables false
set_option linter.unusedSimpArgs false

theorem only_drewN (S : Nat → Prop) (w : World) (q : Nat) : Only S w (w.drewN q) := (Only.refl _ _).drewN q
/-- Who is told, which error, how many steps there are behind it: named. -/
structure StepIs (L : List Int) (c : Int) (n : Nat) (l : List Int) (x e : Int) (n' : Nat) : Prop where
  is : stepS L c n l = (x, e, n')
theorem StepIs.ex (L : List Int) (c : Int) (n : Nat) (l : List Int) : ∃ x e n', StepIs L c n l x e n' := ⟨_, _, _, ⟨rfl⟩⟩
theorem StepIs.le {L : List Int} {c : Int} {n : Nat} {l : List Int} {x e : Int} {n' : Nat} (h : StepIs L c n l x e n') : n ≤ n' ∧ n' ≤ n + 1 := by
  have h := h.is
  unfold stepS at h
  split at h
  · simp at h; omega
  · split at h
    · simp at h; omega
    · simp at h; omega
section
variable {w : World} {b n : Nat} {pa : Option Addr} {pc : Nat} {L : List Int} {c : Int} {ra : Option Addr} {rc k : Nat} {l : List Int} {x e : Int} {n' : Nat}
theorem pstep_any (h : Scr w b pa pc L c n) (hn : n ≤ 1000000) (hk : k = l.length) (hk2 : l.length ≤ 1000000) (hr : RowI w ra rc l) (hs : StepIs L c n l x e n') :
    Calls Try.prog 9 #[.pointer (some ⟨b, 0, none⟩), .slice ra k rc] w fun r w' => r = .returned (.tuple #[.int .i64 x, .int .i64 e]) ∧ Scr w' b pa pc L c n' ∧ Only (fun k => k = b) w w' := by
  have hs := hs.is
  unfold stepS at hs
  cases ho : over c n with
  | true =>
    rw [if_pos ho] at hs
    simp at hs
    obtain ⟨rfl, rfl, rfl⟩ := hs
    refine (pstep_over h ho _).mono ?_
    rintro r w' ⟨rfl, q, rfl⟩
    exact ⟨rfl, h.keep (below_of_drewN q), only_drewN _ _ q⟩
  | false =>
    rw [if_neg (by simp [ho])] at hs
    by_cases hl : l = []
    · rw [if_pos hl] at hs
      simp at hs
      obtain ⟨rfl, rfl, rfl⟩ := hs
      subst hl
      subst hk
      refine (pstep_none h ho ra rc).mono ?_
      rintro r w' ⟨rfl, q, rfl⟩
      exact ⟨rfl, h.keep (below_of_drewN q), only_drewN _ _ q⟩
    · rw [if_neg hl] at hs
      simp at hs
      obtain ⟨rfl, rfl, rfl⟩ := hs
      exact pstep_ok h ho hn hl hk hk2 hr
theorem rstep_any (w : World) {a : Option Addr} {m p : Nat} (hn : n ≤ 1000000) (hm : m = L.length) (hm2 : m ≤ 1000000) (hL : RowI w a p L) (hk : k = l.length) (hk2 : l.length ≤ 1000) (hr : RowI w ra rc l) (hs : StepIs L c n l x e n') {u u' : Nat} (hu : u = min n m) (hu' : u' = min n' m) :
    Calls Try.prog 10 #[.agg (rv a m p c n u), .slice ra k rc] w fun r w' => r = .returned (.tuple #[.agg (rv a m p c n' u'), .int .i64 x, .int .i64 e]) ∧ Below w.heap.size w w' := by
  have hs := hs.is
  unfold stepS at hs
  cases ho : over c n with
  | true =>
    rw [if_pos ho] at hs
    simp at hs
    obtain ⟨rfl, rfl, rfl⟩ := hs
    obtain rfl : u' = u := by omega
    exact rstep_over w a m p c n u' ho _
  | false =>
    rw [if_neg (by simp [ho])] at hs
    by_cases hl : l = []
    · rw [if_pos hl] at hs
      simp at hs
      obtain ⟨rfl, rfl, rfl⟩ := hs
      obtain rfl : u' = u := by omega
      subst hl
      subst hk
      exact rstep_none w a m p c n u' ho ra rc hr
    · rw [if_neg hl] at hs
      simp at hs
      obtain ⟨rfl, rfl, rfl⟩ := hs
      by_cases hmn : n < m
      · have e1 : u = n := by omega
        have e2 : u' = n + 1 := by omega
        rw [e1, e2]
        have := rstep_pick w a m p c n ho hn hm hmn hm2 hL ra rc l hl hk2 hk hr
        simpa [rv] using this
      · have e1 : u = m := by omega
        have e2 : u' = m := by omega
        rw [e1, e2]
        have := rstep_least w a m p c n ho hn hm (by omega) hm2 ra rc l hl hk2 hk hr
        simpa [rv] using this
end
end Go.Proofs.Ytjdcmeclmaljeaa.Pick
