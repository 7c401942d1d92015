/- A deque of numbers is gone through: the function that All hands back. -/
import Derived.Test.YtfoggnfemcnolaaDqList
namespace Go.Proofs.Ytfoggnfemcnolaa.DqI
open Go.RowKit Go.Proofs.Ytfoggnfemcnolaa.Dig Go.Proofs.Ytfoggnfemcnolaa.Mem Go.Proofs.Ytfoggnfemcnolaa.Dq Go.Proofs.Ytfoggnfemcnolaa.Bit Go.Proofs.Ytfoggnfemcnolaa.Sets Go.Shelf
set_option linter.unusedVariables false
set_option linter.unusedSimpArgs false
attribute [local go_sem] Oper.semAt_some

def WfL (l : List Int) : Prop := ∀ x ∈ l, (Lit.int .i64 x).wf = true
theorem list_i {w : World} {s : Sh} {l : List Int} (h : s.At w l) (hw : WfL l) :
    Calls Try.prog 15 #[s.ptr] w fun e w' => (∃ a c, e = .returned (.slice a l.length c) ∧ RowI w' a c l ∧ Fresh w.heap.size a) ∧ Below w.heap.size w w' := by
  refine (list_sh h).mono ?_
  rintro e w' ⟨⟨v, rfl, ho⟩, hb⟩
  obtain ⟨a, c, rfl, h1, h2⟩ := OwnI.row (show OwnI w.heap.size w' v l from ho) (by have := Sh.le h; omega) hw
  exact ⟨⟨a, c, rfl, h1, h2⟩, hb⟩
theorem sall_any (a : Option Addr) (len cap : Nat) (w : World) :
    Calls Try.prog 30 #[.slice a len cap] w fun e w' => e = .returned (.func (.func 33) #[] #[.pointer (some ⟨w.heap.size, 0, none⟩)]) ∧ w' = w.alloc (.cells #[.slice a len cap] 25) := by
  go_enter Try.func30, Try.ntmps30
  go_wp2
  go_ret
  exact ⟨rfl, rfl⟩
set_option maxRecDepth 100000 in
set_option maxHeartbeats 2000000 in
/-- The closure, over a row that stays as it is. -/
theorem sallc_led (B : Nat) (a : Option Addr) (c : Nat) (l : List Int) (hl : l.length ≤ 1000000) (I : List Int → World → Prop) (hI : ∀ pre W, I pre W → W.cell? ⟨B, 0, none⟩ = some (.slice a l.length c) ∧ RowI W a c l) :
    Led Fence.wide 2 Try.prog 33 #[.pointer (some ⟨B, 0, none⟩)] (encE l) I (DueE l) (fun xs => xs = upTo l.length) (fun _ => True) := fun f J Jx W hJI hJ hJx hY h0 => by
  refine callsIn_of_wp Try.func33 rfl trivial ?_ rfl
  simp only [Try.ntmps33, List.size_toArray, List.length_cons, List.length_nil, Nat.reduceAdd, Nat.reduceSub, Array.replicate_succ, Array.replicate_zero, List.push_toArray, List.append_toArray, List.nil_append, List.cons_append]
  have HI := hide (fun pre W h => hI pre W (hJI pre W h))
  obtain ⟨k1, _⟩ := HI.out _ _ h0
  obtain ⟨m, hm⟩ : ∃ m, m = l.length := ⟨_, rfl⟩
  rw [← hm] at k1 hl
  have HM := hide hm
  clear hI hm hJI
  gi_wp2
  clear k1
  gi_loopw [7] (fun i wr => ∃ k : Nat, k ≤ m ∧ i = .int .i64 k ∧ J (upTo k) wr) (fun i _ => m - (intOf i).toNat)
  case atStart => exact ⟨0, Nat.zero_le _, rfl, h0⟩
  case round =>
    obtain ⟨k, hk, rfl, hJs⟩ := hrel
    obtain ⟨_, k2⟩ := HI.out _ _ hJs
    by_cases hlt : k < m
    · obtain ⟨b1, o1, rfl, hc⟩ := k2.at (show k < l.length by rw [← HM.out]; exact hlt)
      obtain ⟨fn, tmps, assign, body, hy, hR⟩ := hY _ (k : Int) wr hJs ⟨k, rfl, by rw [← HM.out]; exact hlt, rfl⟩
      simp only [encE, Int.toNat_natCast] at hy
      obtain ⟨x, hx⟩ : ∃ x, x = l.getD k 0 := ⟨_, rfl⟩
      rw [← hx] at hy hc
      have hli : (k : Int) < m := by omega
      clear k2 hx hJs
      gi_wp2
      refine hR.mono ?_
      rintro e W3 (⟨rfl, hJ3⟩ | ⟨rfl, hJx3⟩)
      · gi_wp2
        go_roundw
        case rel => exact ⟨k + 1, by omega, by simp, by rw [upTo_succ]; exact hJ3⟩
        case measure => simp [intOf]; omega
      · gi_wp2
        refine bodyPost_ret (results_none rfl _ _ _) rfl ?_
        exact ⟨⟨_, rfl⟩, .inr ⟨_, trivial, hJx3⟩⟩
    · obtain rfl : k = m := by omega
      have hli : ¬ (k : Int) < k := by omega
      rw [HM.out] at hJs
      clear k2
      gi_wp2
      go_end0
      exact ⟨⟨_, rfl⟩, .inl hJs⟩
/-- What All hands back: the closure, its box, and the row that the box holds. -/
def IterI (w : World) (v : Value) (B : Nat) (a : Option Addr) (c : Nat) (l : List Int) : Prop := v = .func (.func 33) #[] #[.pointer (some ⟨B, 0, none⟩)] ∧ w.cell? ⟨B, 0, none⟩ = some (.slice a l.length c) ∧ RowI w a c l
theorem all_sh {w : World} {s : Sh} {l : List Int} (h : s.At w l) (hw : WfL l) :
    Calls Try.prog 20 #[s.ptr] w fun e w' => (∃ B a c, w.heap.size ≤ B ∧ e = .returned (.func (.func 33) #[] #[.pointer (some ⟨B, 0, none⟩)]) ∧ w'.cell? ⟨B, 0, none⟩ = some (.slice a l.length c) ∧ RowI w' a c l ∧ Fresh w.heap.size a) ∧ Below w.heap.size w w' := by
  have HL := hide (list_i h hw)
  obtain ⟨q, hq⟩ := s.shape
  rw [hq] at HL ⊢
  obtain ⟨m, hm⟩ : ∃ m, m = l.length := ⟨_, rfl⟩
  rw [← hm] at HL ⊢
  clear h hq hm
  go_enter Try.func20, Try.ntmps20
  go_wp2_with (first
    | (go_at_call 15; go_must ((with_reducible refine (Hid.out HL).mono ?_); rintro e w1 ⟨⟨a, c, rfl, hr, hf⟩, hb⟩; have HR := hide hr; have HF := hide hf; have HB := hide hb; clear hr hf hb HL))
    | (go_at_call 30; go_must ((with_reducible refine (sall_any _ _ _ _).mono ?_); rintro e w2 ⟨rfl, rfl⟩)))
  go_ret
  have hb2 : Below w1.heap.size w1 (w1.alloc (.cells #[.slice a m c] 25)) := (Below.refl _ _).alloc (Nat.le_refl _) _
  exact ⟨⟨w1.heap.size, a, c, HB.out.size, rfl, (Is.made _ _ _ rfl).cell 0 rfl, HR.out.keep hb2, HF.out⟩, HB.out.trans (hb2.mono HB.out.size)⟩
end Go.Proofs.Ytfoggnfemcnolaa.DqI
