/- The document's own example of layer 1, played: it answers true and writes nothing that was there. -/
import Derived.Test.YtopimhoepknjdaaDigPrint
import Derived.Test.YtopimhoepknjdaaDigList
import Derived.Lib.SlBytesConst
namespace Go.Proofs.Ytopimhoepknjdaa.Dig
open Go.RowKit
set_option linter.unusedVariables false
set_option linter.unusedSimpArgs false

theorem Rd.lit (k : IntKind) (ns : List Int) (w : World) (t : TypeId) (fr : Nat × Nat) (hw : ∀ n ∈ ns, (Lit.int k n).wf = true) (hl : ns.length ≤ 1000000000000) :
    Rd k (w.alloc (.cells (ns.map (Value.int k)).toArray t fr)) (some ⟨w.heap.size, 0, none⟩) ns.length (fun i => ns.getD i 0) := by
  refine ⟨hl, fun i hi => ⟨w.heap.size, 0, rfl, ?_, ?_⟩⟩
  · rw [Nat.zero_add, World.cell?_alloc_mark _ _ _ _ _]
    simp [List.getD_eq_getElem?_getD, List.getElem?_eq_getElem hi]
  · simp only [List.getD_eq_getElem?_getD, List.getElem?_eq_getElem hi, Option.getD_some]
    exact hw _ (List.getElem_mem hi)
theorem parse_a (w : World) (b c : Nat) (hb : b = w.heap.size) : Calls Try.prog 9 #[.slice (some ⟨b, 0, none⟩) 4 c, .int .i64 1] (w.alloc (.cells #[.int .u8 120, .int .u8 55, .int .u8 48, .int .u8 32] 5 (4, 5)))
    fun e w' => e = .returned (.tuple #[.int .i64 70, .int .i64 3, .bool true]) ∧ w' = w.alloc (.cells #[.int .u8 120, .int .u8 55, .int .u8 48, .int .u8 32] 5 (4, 5)) :=
  by subst hb; exact parse_eq _ 4 c _ 1 _ (Rd.lit .u8 [120, 55, 48, 32] w 5 _ (by decide) (by decide)) (by show _ = _; decide)
theorem parse_b (w : World) (b c : Nat) (hb : b = w.heap.size) : Calls Try.prog 9 #[.slice (some ⟨b, 0, none⟩) 3 c, .int .i64 0] (w.alloc (.cells #[.int .u8 48, .int .u8 48, .int .u8 55] 5 (3, 4)))
    fun e w' => e = .returned (.tuple #[.int .i64 0, .int .i64 1, .bool false]) ∧ w' = w.alloc (.cells #[.int .u8 48, .int .u8 48, .int .u8 55] 5 (3, 4)) :=
  by subst hb; exact parse_eq _ 3 c _ 0 _ (Rd.lit .u8 [48, 48, 55] w 5 _ (by decide) (by decide)) (by show _ = _; decide)
theorem print_70 (w : World) : Calls Try.prog 14 #[.int .i64 70] w fun e w' => e = .returned (.tuple #[.string ⟨#[55, 48]⟩, .int .i64 0]) ∧ Below w.heap.size w w' :=
  print_any 70 w (by decide)
theorem width_70 (w : World) : Calls Try.prog 16 #[.int .i64 70] w fun e w' => e = .returned (.int .i64 2) ∧ w' = w :=
  width_any 70 w (by decide)
theorem list_a (w : World) (b c : Nat) (hb : b = w.heap.size) : Calls Try.prog 11 #[.slice (some ⟨b, 0, none⟩) 5 c, .int .i64 0] (w.alloc (.cells #[.int .u8 32, .int .u8 53, .int .u8 32, .int .u8 55, .int .u8 48] 5 (5, 6)))
    fun e w' => ∃ a cap, e = .returned (.tuple #[.slice a 2 cap, .int .i64 5, .bool true]) ∧ Below w.heap.size w w' ∧ Rd .i64 w' a 2 (fun i => [5, 70].getD i 0) := by
  subst hb
  have h := list_any _ 5 c _ 0 _ (Rd.lit .u8 [32, 53, 32, 55, 48] w 5 (5, 6) (by decide) (by decide))
  have e : lst (fun i => [32, 53, 32, 55, 48].getD i 0) 5 0 = ([5, 70], 5, true) := by decide
  rw [e] at h
  refine h.mono ?_
  rintro e w' ⟨v, rfl, hown, hb, hl, hll⟩
  obtain ⟨a, cap, rfl, h1, h2⟩ := Rd.own hown hll (by decide)
  exact ⟨a, cap, rfl, ((Below.refl _ _).alloc (Nat.le_refl _) _).trans (hb.mono (by simp)), h2⟩
theorem same_a (w : World) (a : Option Addr) (cap b c : Nat) (hb : b = w.heap.size) (h : Rd .i64 w a 2 (fun i => [5, 70].getD i 0)) :
    Calls Try.prog 13 #[.slice a 2 cap, .slice (some ⟨b, 0, none⟩) 2 c] (w.alloc (.cells #[.int .i64 5, .int .i64 70] 3)) fun e w' => e = .returned (.bool true) ∧ Below w.heap.size w w' :=
  by subst hb; exact (same_yes a _ 2 cap c _ _ (h.keep ((Below.refl _ _).alloc (Nat.le_refl _) _)) (Rd.lit .i64 [5, 70] w 3 _ (by decide) (by decide))).mono fun e w' h => ⟨h.1, ((Below.refl _ _).alloc (Nat.le_refl _) _).trans (h.2.mono (by simp))⟩
theorem conv_const (w : World) (C : Array Value) (n c b : Nat) (hb : b = w.heap.size) :
    (convert 22 22 (.slice (some ⟨b, 0, none⟩) n c)).run Try.prog (w.alloc (.cells C 5)) = .ok (.slice (some ⟨b, 0, none⟩) n c) (w.alloc (.cells C 5 (C.size, C.size + 1))) := by
  subst hb
  exact Lib.run_convert_bytes_const (P := Try.prog) w 22 5 C n c Try.underlying22 Try.underlying5
set_option maxHeartbeats 1000000 in
theorem works_any (w : World) : Calls Try.prog 8 #[] w fun e w' => e = .returned (.bool true) ∧ Below w.heap.size w w' := by
  have hcv := conv_const
  go_enter Try.func8, Try.ntmps8
  go_wp2_with (first | (go_at_call 9; with_reducible refine (parse_a _ _ _ (by simp)).mono ?_; rintro e w' ⟨rfl, rfl⟩) | (go_at_call 9; with_reducible refine (parse_b _ _ _ (by simp)).mono ?_; rintro e w' ⟨rfl, rfl⟩) | (go_at_call 14; with_reducible refine (print_70 _).mono ?_; rintro e w1 ⟨rfl, hb1⟩) | (go_at_call 11; with_reducible refine (list_a _ _ _ (by simp)).mono ?_; rintro e w2 ⟨a2, c2, rfl, hb2, hr2⟩) | (go_at_call 16; with_reducible refine (width_70 _).mono ?_; rintro e w' ⟨rfl, hw⟩; replace hw := hw.symm; subst hw) | (go_at_call 13; with_reducible refine (same_a _ _ _ _ _ (by simp) hr2).mono ?_; rintro e w3 ⟨rfl, hb3⟩))
  go_ret
  refine ⟨rfl, ?_⟩
  have hb := hb1.size
  have hb' := hb2.size
  simp at hb hb'
  exact (((((Below.refl _ _).alloc (Nat.le_refl _) _).alloc (by simp) _).trans (hb1.mono (by simp; omega))).trans (hb2.mono (by omega))).trans (hb3.mono (by omega))
end Go.Proofs.Ytopimhoepknjdaa.Dig
