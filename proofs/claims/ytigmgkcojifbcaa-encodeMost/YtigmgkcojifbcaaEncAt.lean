/- Encode's calls over a history that lies in a variable of a law's own. -/
import Derived.Test.YtigmgkcojifbcaaEncWorks
namespace Go.Proofs.Ytigmgkcojifbcaa.Hist
open Go.RowKit Go.Proofs.Ytigmgkcojifbcaa.Dig Go.Proofs.Ytigmgkcojifbcaa.Mem
set_option linter.unusedVariables false
set_option linter.unusedSimpArgs false

/-- A history in memory, and in a variable of the call's own. -/
structure OneT (w : World) (tv : Value) (ts : List TxnM) (X : World → Prop) (wx : World) : Prop where
  below : Below w.heap.size w wx
  ext : ∀ wy, Below wx.heap.size wx wy → X wy
  c1 : wx.cell? ⟨w.heap.size, 0, none⟩ = some tv
  t : TxnsAt (fun b => b < w.heap.size) wx tv ts
theorem OneT.keep {w wx wy : World} {tv : Value} {ts : List TxnM} {X : World → Prop} (h : OneT w tv ts X wx) (hb : Below wx.heap.size wx wy) : OneT w tv ts X wy :=
  ⟨h.below.trans (hb.mono h.below.size), fun wz hz => h.ext wz (hb.trans (hz.mono hb.size)), (Only.of_below (S := fun _ => False) hb).cell h.c1 (fun q => q), h.t.keep hb⟩
theorem OneT.start {w : World} {tv : Value} {ts : List TxnM} (T : TypeId) (ht : TxnsAt (fun b => b < w.heap.size) w tv ts) : OneT w tv ts (fun _ => True) (w.alloc (.cells #[tv] T)) :=
  ⟨(Below.refl _ _).alloc (Nat.le_refl _) _, fun _ _ => trivial, (Is.made w #[tv] T rfl).cell 0 rfl, ht.keep ((Below.refl _ _).alloc (Nat.le_refl _) _)⟩
theorem OneT.with {w wx : World} {tv : Value} {ts : List TxnM} {X Y : World → Prop} (h : OneT w tv ts X wx) (hy : ∀ wy, Below wx.heap.size wx wy → Y wy) : OneT w tv ts Y wx := ⟨h.below, hy, h.c1, h.t⟩
theorem conv_nil (w : World) : (convert 27 9 (.slice none 0 0)).run Try.prog w = .ok (.string ⟨#[]⟩) w := by kernel_rfl
section
variable {w wx : World} {tv : Value} {ts : List TxnM} {X : World → Prop}
theorem encT {ec : Int} {L : List UInt8} (h : Hid (OneT w tv ts X wx)) (hf : Hid (Few4 ts)) (hc : Hid (checkS ts = ec)) (hL : Hid (textA ts = L)) :
    Calls Try.prog 9 #[.agg #[tv]] wx fun e w' => ∃ bv, e = .returned (.tuple #[bv, .int .i64 ec]) ∧ Hid (∀ wy, Below w'.heap.size w' wy → (convert 27 9 bv).run Try.prog wy = .ok (.string ⟨L.toArray⟩) wy) ∧ Hid (OneT w tv ts X w') := by
  refine (encode_any _ tv ts wx h.out.t (fun b q => Nat.lt_of_lt_of_le q h.out.below.size) hf.out).mono ?_
  rintro e w' (⟨h0, g, n, hn, rfl, h1, h2, h3⟩ | ⟨h0, rfl, h3⟩)
  · have e1 : ec = 0 := by rw [← hc.out, h0]
    subst e1
    have e2 : L = textH8 ts := by rw [← hL.out]; unfold textA; rw [if_pos h0]
    subst e2
    exact ⟨_, rfl, fun wy hb => BRow.conv (h1.below hb) hn.symm, h.out.keep h3⟩
  · have e2 : L = [] := by rw [← hL.out]; unfold textA; rw [if_neg h0]
    subst e2
    exact ⟨_, by rw [hc.out], fun wy hb => conv_nil wy, h.out.keep h3⟩
theorem chkT4 {ec : Int} (h : Hid (OneT w tv ts X wx)) (hf : Hid (Few4 ts)) (hc : Hid (checkS ts = ec)) :
    Calls Try.prog 11 #[.agg #[tv]] wx fun e w' => e = .returned (.int .i64 ec) ∧ Hid (OneT w tv ts X w') := by
  refine (check_any _ tv ts wx h.out.t (fun b q => Nat.lt_of_lt_of_le q h.out.below.size) hf.out).mono ?_
  rw [hc.out]
  rintro e w' ⟨rfl, hb⟩
  exact ⟨rfl, h.out.keep hb⟩
theorem szT4 {n : Int} (h : Hid (OneT w tv ts X wx)) (hf : Hid (Few4 ts)) (hn : Hid ((sizeA ts : Int) = n)) :
    Calls Try.prog 13 #[.agg #[tv]] wx fun e w' => e = .returned (.int .i64 n) ∧ Hid (OneT w tv ts X w') := by
  refine (psize_any _ tv ts wx h.out.t (fun b q => Nat.lt_of_lt_of_le q h.out.below.size) hf.out).mono ?_
  rw [hn.out]
  rintro e w' ⟨rfl, hb⟩
  exact ⟨rfl, h.out.keep hb⟩
theorem worksT4 (h : Hid (OneT w tv ts X wx)) : Calls Try.prog 8 #[] wx fun e w' => e = .returned (.bool true) ∧ Hid (OneT w tv ts X w') := by
  refine (works4_any wx).mono ?_
  rintro e w' ⟨rfl, hb⟩
  exact ⟨rfl, h.out.keep hb⟩
end
end Go.Proofs.Ytigmgkcojifbcaa.Hist
