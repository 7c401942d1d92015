/- The document's own example of layer 4, played: it answers true and writes nothing that was there. -/
import Derived.Test.YtigmgkcojifbcaaEncEncode
namespace Go.Proofs.Ytigmgkcojifbcaa.Hist
open Go.RowKit Go.Proofs.Ytigmgkcojifbcaa.Dig Go.Proofs.Ytigmgkcojifbcaa.Mem
set_option linter.unusedVariables false
set_option linter.unusedSimpArgs false

/-- The bytes of a history, if it may be; else none. -/
def textA (ts : List TxnM) : List UInt8 := if checkS ts = 0 then textH8 ts else []
theorem sizeA_len (ts : List TxnM) : sizeA ts = (textA ts).length := by unfold sizeA textA; split <;> rfl
theorem BRow.conv {w : World} {g cap : Nat} {l : List UInt8} (h : BRow w g cap l) {n : Nat} (hn : l.length = n) : (convert 27 9 (.slice (some ⟨g, 0, none⟩) n cap)).run Try.prog w = .ok (.string ⟨l.toArray⟩) w := by
  subst hn
  exact run_convert_bytes_back (P := Try.prog) w 27 9 5 ⟨g, 0, none⟩ cap l Try.underlying27 Try.underlying5 Try.underlying9 (by
    intro j hj
    rw [Addr.add_lit, Nat.zero_add, World.ownsRow.cellAt h j (by omega)]
    simp [toI, List.getElem?_eq_getElem hj])
def exW : List TxnM := [⟨7, false, [⟨true, 1, 0, [5]⟩]⟩]
def exN : List TxnM := [⟨-1, false, []⟩]
theorem exW_chk : checkS exW = 0 := by decide +kernel
theorem exN_chk : checkS exN = 2 := by decide +kernel
theorem exW_txt : textH8 exW = [116, 32, 55, 32, 99, 10, 114, 32, 49, 32, 53, 10] := by decide +kernel
theorem exW_few : Few4 exW := ⟨by decide, by decide, fun t ht => by simp [exW] at ht; subst ht; exact ⟨by decide, by decide⟩⟩
theorem exN_few : Few4 exN := ⟨by decide, by decide, fun t ht => by simp [exN] at ht; subst ht; exact ⟨by decide, by simp⟩⟩
theorem exW_at (w : World) (T1 T2 T3 : TypeId) :
    TxnsAt (fun b => b < w.heap.size + 3) (((w.alloc (.cells #[.int .i64 5] T1)).alloc (.cells #[.bool true, .int .i64 1, .int .i64 0, .slice (some ⟨w.heap.size, 0, none⟩) 1 1] T2)).alloc (.cells #[.int .i64 7, .bool false, .slice (some ⟨w.heap.size + 1, 0, none⟩) 1 1] T3)) (.slice (some ⟨w.heap.size + 1 + 1, 0, none⟩) 1 1) exW := by
  have h2 := (((Is.made w #[.int .i64 5] T1 rfl).alloc (.cells #[.bool true, .int .i64 1, .int .i64 0, .slice (some ⟨w.heap.size, 0, none⟩) 1 1] T2)).alloc (.cells #[.int .i64 7, .bool false, .slice (some ⟨w.heap.size + 1, 0, none⟩) 1 1] T3))
  have k2 := ((Is.made (w.alloc (.cells #[.int .i64 5] T1)) #[.bool true, .int .i64 1, .int .i64 0, .slice (some ⟨w.heap.size, 0, none⟩) 1 1] T2 (by simp; rfl)).alloc (.cells #[.int .i64 7, .bool false, .slice (some ⟨w.heap.size + 1, 0, none⟩) 1 1] T3))
  have m2 := Is.made ((w.alloc (.cells #[.int .i64 5] T1)).alloc (.cells #[.bool true, .int .i64 1, .int .i64 0, .slice (some ⟨w.heap.size, 0, none⟩) 1 1] T2)) #[.int .i64 7, .bool false, .slice (some ⟨w.heap.size + 1, 0, none⟩) 1 1] T3 (b := w.heap.size + 1 + 1) (by simp)
  have r1 := RowAt.block (n := 1) (cs := [[Value.int .i64 5]]) (cap := 1) (by simp) h2 (by simp) (by unfold maxLen; omega)
  have r2 := RowAt.block (n := 4) (cs := [[.bool true, .int .i64 1, .int .i64 0, .slice (some ⟨w.heap.size, 0, none⟩) 1 1]]) (cap := 1) (by simp) k2 (by simp) (by unfold maxLen; omega)
  have r3 := RowAt.block (n := 3) (cs := [[Value.int .i64 7, .bool false, .slice (some ⟨w.heap.size + 1, 0, none⟩) 1 1]]) (cap := 1) (by simp) m2 (by simp) (by unfold maxLen; omega)
  refine ⟨_, r3.mono (fun b q => by omega), AllAt.one ⟨_, rfl, ⟨_, r2.mono (fun b q => by omega), AllAt.one ⟨_, rfl, ⟨r1.mono (fun b q => by omega), by decide⟩, by decide, by decide⟩⟩, by decide⟩⟩
theorem exN_at (w : World) (T1 : TypeId) : TxnsAt (fun b => b < w.heap.size + 1) (w.alloc (.cells #[.int .i64 (-1), .bool false, .slice none 0 0] T1)) (.slice (some ⟨w.heap.size, 0, none⟩) 1 1) exN := by
  have m2 := Is.made w #[.int .i64 (-1), .bool false, .slice none 0 0] T1 rfl
  have r3 := RowAt.block (n := 3) (cs := [[Value.int .i64 (-1), .bool false, .slice none 0 0]]) (cap := 1) (by simp) m2 (by simp) (by unfold maxLen; omega)
  exact ⟨_, r3.mono (fun b q => by omega), AllAt.one ⟨_, rfl, OpsAt.nil, by decide⟩⟩
theorem enc_exW (w : World) (T1 T2 T3 : TypeId) (b1 b2 b3 : Nat) (e1 : b1 = w.heap.size) (e2 : b2 = w.heap.size + 1) (e3 : b3 = w.heap.size + 1 + 1) :
    Calls Try.prog 9 #[.agg #[.slice (some ⟨b3, 0, none⟩) 1 1]] (((w.alloc (.cells #[.int .i64 5] T1)).alloc (.cells #[.bool true, .int .i64 1, .int .i64 0, .slice (some ⟨b1, 0, none⟩) 1 1] T2)).alloc (.cells #[.int .i64 7, .bool false, .slice (some ⟨b2, 0, none⟩) 1 1] T3)) fun e w' => ∃ g, e = .returned (.tuple #[.slice (some ⟨g, 0, none⟩) 12 12, .int .i64 0]) ∧ Hid (BRow w' g 12 [116, 32, 55, 32, 99, 10, 114, 32, 49, 32, 53, 10]) ∧ Hid (Below w.heap.size w w') := by
  subst e1 e2 e3
  refine (encode_any _ _ exW _ (exW_at w T1 T2 T3) (fun b q => by simp; omega) exW_few).mono ?_
  rintro e w' (⟨_, g, n, hn, rfl, h1, h2, h3⟩ | ⟨q, _⟩)
  · rw [exW_txt] at hn h1
    subst hn
    exact ⟨g, rfl, h1, ((((Below.refl _ _).alloc (Nat.le_refl _) _).alloc (by simp) _).alloc (by simp; omega) _).trans (h3.mono (by simp; omega))⟩
  · exact absurd exW_chk q
theorem chk_exN (w : World) (T1 : TypeId) (b : Nat) (hb : b = w.heap.size) :
    Calls Try.prog 11 #[.agg #[.slice (some ⟨b, 0, none⟩) 1 1]] (w.alloc (.cells #[.int .i64 (-1), .bool false, .slice none 0 0] T1)) fun e w' => e = .returned (.int .i64 2) ∧ Below w.heap.size w w' := by
  subst hb
  refine (check_any _ _ exN _ (exN_at w T1) (fun b q => by simp; omega) exN_few).mono ?_
  rw [exN_chk]
  rintro e w' ⟨rfl, h⟩
  exact ⟨rfl, ((Below.refl _ _).alloc (Nat.le_refl _) _).trans (h.mono (by simp))⟩
set_option maxHeartbeats 2000000 in
set_option maxRecDepth 20000 in
theorem works4_any (w : World) : Calls Try.prog 8 #[] w fun e w' => e = .returned (.bool true) ∧ Below w.heap.size w w' := by
  go_enter Try.func8, Try.ntmps8
  go_wp2_with (first
    | (go_at_call 9; go_must ((with_reducible refine (enc_exW w _ _ _ _ _ _ rfl rfl rfl).mono ?_); rintro e w1 ⟨g, rfl, h1, hb1⟩; have hcv := BRow.conv h1.out (n := 12) rfl))
    | (go_at_call 11; go_must ((with_reducible refine (chk_exN _ _ _ rfl).mono ?_); rintro e w2 ⟨rfl, hb2⟩)))
  go_ret
  exact ⟨rfl, hb1.out.trans (hb2.mono hb1.out.size)⟩
end Go.Proofs.Ytigmgkcojifbcaa.Hist
