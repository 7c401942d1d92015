/- From: a set is gone through from something on. -/
import Derived.Test.YtghdafgpdhbohaaSetIter
namespace Go.Proofs.Ytghdafgpdhbohaa.Sets
open Go.RowKit Go.Proofs.Ytghdafgpdhbohaa.Dig Go.Proofs.Ytghdafgpdhbohaa.Mem
set_option linter.unusedVariables false
set_option linter.unusedSimpArgs false

/-- A row, from a place on. -/
theorem slice_from {w : World} {a : Option Addr} {c : Nat} {l : List Int} (h : RowV w a c l) (m : Nat) (hm : m ≤ l.length) :
    ∃ a2 c2, (∀ W : World, (Instr.slice 22 (.slice a l.length c) (some (.int .i64 (m : Int))) none none).run Try.prog W = .ok (.slice a2 (l.drop m).length c2) W) ∧ ∀ W, RowV W a c l → RowV W a2 c2 (l.drop m) := by
  have hel : Try.prog.elem 22 = 3 := by kernel_rfl
  have hu : Try.prog.underlying 22 = some (.slice (Try.prog.elem 22)) := by rw [hel]; exact Try.underlying22
  have hr : ∀ W : World, (Instr.slice 22 (.slice a l.length c) (some (.int .i64 (m : Int))) none none).run Try.prog W = .ok (sliced a m l.length c 1) W := fun W => by
    rw [run_slice_l (t := 22) (a := a) (len := l.length) (cap := c) (w := W) hu .i64 (m : Int) (by omega) (by omega), hel, Try.sizeOf3]
    simp [Result.andThen]
  refine ⟨if c = m then a else a.map (·.add (m * 1)), c - m, fun W => by rw [hr W, List.length_drop]; rfl, fun W hW => ⟨by have := hW.cap; rw [List.length_drop]; omega, ⟨by have := hW.rd.1; rw [List.length_drop]; omega, fun i hi => ?_⟩, fun e => ?_⟩⟩
  · rw [List.length_drop] at hi
    have hc := hW.cap
    obtain ⟨b, off, rfl, hcell, hwf⟩ := hW.rd.2 (m + i) (by omega)
    have e : (l.drop m).getD i 0 = l.getD (m + i) 0 := by simp [List.getD_eq_getElem?_getD]
    refine ⟨b, off + m, ?_, ?_, ?_⟩
    · rw [if_neg (by omega), Nat.mul_one]
      simp [Addr.add_lit]
    · show _ = some (Value.int .i64 ((l.drop m).getD i 0))
      rw [e, Nat.add_assoc]
      exact hcell
    · show (Lit.int .i64 ((l.drop m).getD i 0)).wf = true
      rw [e]
      exact hwf
  · have : a = none := by
      split at e
      · exact e
      · cases a with
        | none => rfl
        | some x => simp at e
    have := hW.nil this
    omega
theorem from_any (v : Value) (s : List Int) (x : Int) (w : World) (h : SetV w v s) (hm : s.length ≤ 1000000) (hs : Rising ltI s) :
    Calls Try.prog 21 #[v, .int .i64 x] w fun e w' => ∃ B, w.heap.size ≤ B ∧ e = .returned (.func (.func 49) #[] #[.pointer (some ⟨B, 0, none⟩)]) ∧ (∃ a c, w'.cell? ⟨B, 0, none⟩ = some (.slice a (s.dropWhile fun y => ltI y x).length c) ∧ RowV w' a c (s.dropWhile fun y => ltI y x) ∧ RowV w a c (s.dropWhile fun y => ltI y x)) ∧ Below w.heap.size w w' := by
  obtain ⟨a, c, rfl, hr⟩ := h
  rw [← drop_count totI x hs]
  have H0 : Hid (∀ T : TypeId, Calls Try.prog 37 #[.slice a s.length c, .int .i64 x] (w.alloc (.cells #[.slice a s.length c] T)) fun e w' => e = .returned (.tuple #[.int .i64 (s.countP fun y => ltI y x : Nat), .bool (decide (x ∈ s))]) ∧ Below (w.alloc (.cells #[.slice a s.length c] T)).heap.size (w.alloc (.cells #[.slice a s.length c] T)) w') :=
    fun T => bs_any a c s x _ (hr.keep ((Below.refl _ _).alloc (Nat.le_refl _) _)) hm hs
  have hle : (s.countP fun y => ltI y x) ≤ s.length := List.countP_le_length
  obtain ⟨m, hm'⟩ : ∃ m : Nat, m = (s.countP fun y => ltI y x) := ⟨_, rfl⟩
  obtain ⟨r, hr'⟩ : ∃ r : Bool, r = decide (x ∈ s) := ⟨_, rfl⟩
  rw [← hm', ← hr'] at H0
  rw [← hm'] at hle ⊢
  obtain ⟨a2, c2, hsl, hrow⟩ := slice_from hr m hle
  have HR2 := hide (hrow w hr)
  obtain ⟨n, hn⟩ : ∃ n, n = s.length := ⟨_, rfl⟩
  obtain ⟨d, hd⟩ : ∃ d, d = (s.drop m).length := ⟨_, rfl⟩
  rw [← hn] at H0 hsl ⊢
  rw [← hd] at hsl ⊢
  have HD := hide hd
  have HM : Hid (m ≤ n) := by rw [hn]; exact hle
  clear hn hm' hr' hr hm hs hrow hle hd
  go_enter Try.func21, Try.ntmps21
  go_wp2_with (first | (go_at_call 37; go_must ((with_reducible refine (H0.out _).mono ?_); rintro e w9 ⟨rfl, hb9⟩; have HB := hide hb9; have hc9 : w9.cell? ⟨w.heap.size, 0, none⟩ = some (.slice a n c) := ((Is.made w _ _ rfl).below hb9).cell 0 rfl; clear hb9)) | (go_at_call 38; go_must ((with_reducible refine (vals_any _ _ _ _).mono ?_); rintro e w8 ⟨rfl, rfl⟩)))
  go_ret
  have hb : Below w.heap.size w w9 := ((Below.refl _ _).alloc (Nat.le_refl _) _).trans (HB.out.mono (by simp))
  have hb2 : Below w.heap.size w (w9.alloc (.cells #[.slice a2 d c2] 22)) := hb.alloc hb.size _
  refine ⟨w9.heap.size, hb.size, by simp, ⟨a2, c2, ?_, HR2.out.keep hb2, HR2.out⟩, hb2⟩
  exact (Is.made _ _ _ rfl).cell 0 rfl
end Go.Proofs.Ytghdafgpdhbohaa.Sets
