/- EncodeTexts, walked. -/
import Derived.Test.YtigmgkcojifbcaaEncWorks
import Derived.Test.YtigmgkcojifbcaaHistFew
import Derived.Deep.RegionHeld3
import Derived.Deep.DrawnRows
import Derived.Deep.DeepMust
namespace Go.Proofs.Ytigmgkcojifbcaa.Walk
open Go.RowKit Go.Proofs.Ytigmgkcojifbcaa.Dig Go.Proofs.Ytigmgkcojifbcaa.Mem Go.Proofs.Ytigmgkcojifbcaa.Hist
set_option linter.unusedVariables false
set_option linter.unusedSimpArgs false

theorem few4 {ts : List TxnM} (h1 : ts.length ≤ 40) (h2 : opsN ts ≤ 100) (h3 : Lists 100 ts) : Few4 ts :=
  ⟨by omega, by omega, fun t ht => ⟨by obtain ⟨i, hi, rfl⟩ := List.mem_iff_getElem.1 ht; have := ops_le hi; omega, fun o ho => by have := h3 t ht o ho; omega⟩⟩
/-- A history in memory, and in a variable of the call's own. -/
structure OneT (w : World) (tv : Value) (ts : List TxnM) (X : World → Prop) (wx : World) : Prop where
  below : Below w.heap.size w wx
  ext : ∀ wy, Below wx.heap.size wx wy → X wy
  c1 : wx.cell? ⟨w.heap.size, 0, none⟩ = some tv
  t : TxnsAt (fun b => b < w.heap.size) wx tv ts
theorem OneT.keep {w wx wy : World} {tv : Value} {ts : List TxnM} {X : World → Prop} (h : OneT w tv ts X wx) (hb : Below wx.heap.size wx wy) : OneT w tv ts X wy :=
  ⟨h.below.trans (hb.mono h.below.size), fun wz hz => h.ext wz (hb.trans (hz.mono hb.size)), (Only.of_below (S := fun _ => False) hb).cell h.c1 (fun q => q), h.t.keep hb⟩
theorem OneT.start {w : World} {tv : Value} {ts : List TxnM} (T : TypeId) (ht : TxnsAt (fun b => b < w.heap.size) w tv ts) : OneT w tv ts (fun _ => True) (w.alloc (.cells #[tv] T)) :=
  ⟨(Below.refl _ _).alloc (Nat.le_refl _) _, fun _ _ => trivial, (Is.made w #[tv] T rfl).cell 0 rfl, ht.keep ((Below.refl _ _).alloc (Nat.le_refl _) _)⟩
theorem OneT.with {w wx : World} {tv : Value} {ts : List TxnM} {X Y : World → Prop} (h : OneT w tv ts X wx) (hy : ∀ wy, Below wx.heap.size wx wy → Y wy) : OneT w tv ts Y wx := ⟨h.below, hy, h.c1, h.t⟩
theorem conv_nil (w : World) : (convert 27 9 (.slice none 0 0)).run Try.prog w = .ok (.string ⟨#[]⟩) w := by kernel_rfl
section
variable {w wx : World} {tv : Value} {ts : List TxnM} {X : World → Prop}
theorem encT {ec : Int} {L : List UInt8} (h : Hid (OneT w tv ts X wx)) (hf : Hid (Few4 ts)) (hc : Hid (checkS ts = ec)) (hL : Hid (textA ts = L)) :
    Calls Try.prog 9 #[.agg #[tv]] wx fun e w' => ∃ bv, e = .returned (.tuple #[bv, .int .i64 ec]) ∧ Hid (∀ wy, Below w'.heap.size w' wy → (convert 27 9 bv).run Try.prog wy = .ok (.string ⟨L.toArray⟩) wy) ∧ Hid (OneT w tv ts X w') := by
  refine (encode_any _ tv ts wx h.out.t (fun b q => Nat.lt_of_lt_of_le q h.out.below.size) hf.out).mono ?_
  rintro e w' (⟨h0, g, n, hn, rfl, h1, h2, h3⟩ | ⟨h0, rfl, h3⟩)
  · have e1 : ec = 0 := by rw [← hc.out, h0]
    subst e1
    have e2 : L = textH8 ts := by rw [← hL.out]; unfold textA; rw [if_pos h0]
    subst e2
    exact ⟨_, rfl, fun wy hb => BRow.conv (h1.below hb) hn.symm, h.out.keep h3⟩
  · have e2 : L = [] := by rw [← hL.out]; unfold textA; rw [if_neg h0]
    subst e2
    exact ⟨_, by rw [hc.out], fun wy hb => conv_nil wy, h.out.keep h3⟩
theorem rencT {ec : Int} {L : List UInt8} (h : Hid (OneT w tv ts X wx)) (hf : Hid (Few4 ts)) (hc : Hid (checkS ts = ec)) (hL : Hid (textA ts = L)) :
    Calls Try.prog 10 #[.agg #[tv]] wx fun e w' => e = .returned (.tuple #[.string ⟨L.toArray⟩, .int .i64 ec]) ∧ Below wx.heap.size wx w' ∧ Hid (OneT w tv ts X w') := by
  refine (rencode_any _ tv ts wx h.out.t (fun b q => Nat.lt_of_lt_of_le q h.out.below.size) hf.out).mono ?_
  rw [hc.out, hL.out]
  rintro e w' ⟨rfl, hb⟩
  exact ⟨rfl, hb, h.out.keep hb⟩
theorem chkT4 {ec : Int} (h : Hid (OneT w tv ts X wx)) (hf : Hid (Few4 ts)) (hc : Hid (checkS ts = ec)) :
    Calls Try.prog 11 #[.agg #[tv]] wx fun e w' => e = .returned (.int .i64 ec) ∧ Hid (OneT w tv ts X w') := by
  refine (check_any _ tv ts wx h.out.t (fun b q => Nat.lt_of_lt_of_le q h.out.below.size) hf.out).mono ?_
  rw [hc.out]
  rintro e w' ⟨rfl, hb⟩
  exact ⟨rfl, h.out.keep hb⟩
theorem rchkT4 {ec : Int} (h : Hid (OneT w tv ts X wx)) (hf : Hid (Few4 ts)) (hc : Hid (checkS ts = ec)) :
    Calls Try.prog 12 #[.agg #[tv]] wx fun e w' => e = .returned (.int .i64 ec) ∧ Hid (OneT w tv ts X w') := by
  refine (rcheck_any _ tv ts wx h.out.t (fun b q => Nat.lt_of_lt_of_le q h.out.below.size) hf.out).mono ?_
  rw [hc.out]
  rintro e w' ⟨rfl, hb⟩
  exact ⟨rfl, h.out.keep hb⟩
theorem szT4 {n : Int} (h : Hid (OneT w tv ts X wx)) (hf : Hid (Few4 ts)) (hn : Hid ((sizeA ts : Int) = n)) :
    Calls Try.prog 13 #[.agg #[tv]] wx fun e w' => e = .returned (.int .i64 n) ∧ Hid (OneT w tv ts X w') := by
  refine (psize_any _ tv ts wx h.out.t (fun b q => Nat.lt_of_lt_of_le q h.out.below.size) hf.out).mono ?_
  rw [hn.out]
  rintro e w' ⟨rfl, hb⟩
  exact ⟨rfl, h.out.keep hb⟩
theorem worksT4 (h : Hid (OneT w tv ts X wx)) : Calls Try.prog 8 #[] wx fun e w' => e = .returned (.bool true) ∧ Hid (OneT w tv ts X w') := by
  refine (works4_any wx).mono ?_
  rintro e w' ⟨rfl, hb⟩
  exact ⟨rfl, h.out.keep hb⟩
end
set_option maxRecDepth 20000 in
set_option maxHeartbeats 4000000 in
theorem walk_encodeTexts (w : World) (ta : Option Addr) (tcap : Nat) (ts : List TxnM) (ht : TxnsAt (fun b => b < w.heap.size) w (.slice ta ts.length tcap) ts) :
    Calls Try.prog 3 #[.agg #[.slice ta ts.length tcap]] w fun e w' => e = .returned (.bool true) ∧ Below w.heap.size w w' := by
  have H0 : Hid (OneT w (.slice ta ts.length tcap) ts (fun _ => True) (w.alloc (.cells #[.slice ta ts.length tcap] 24))) := OneT.start 24 ht
  have c1 := H0.out.c1
  obtain ⟨ec, hec⟩ : ∃ e, checkS ts = e := ⟨_, rfl⟩
  have EC := hide hec
  obtain ⟨L, hL⟩ : ∃ L, textA ts = L := ⟨_, rfl⟩
  have EL := hide hL
  have EN : Hid ((sizeA ts : Int) = (L.length : Int)) := hide (by rw [sizeA_len, hL])
  clear ht hec hL
  go_enter Try.func3, Try.ntmps3
  go_wp2_with fail
  refine (rfew_any _ _ ts _ H0.out.t).mono ?_
  rintro e w1 ⟨r1, rfl, hf1, hb1⟩
  have H1 := hide (H0.out.keep hb1)
  have c1 := H1.out.c1
  replace hf1 := hide hf1
  clear hb1
  cases r1 with
  | false =>
    go_wp2_with (go_at_call 8; go_must ((with_reducible refine (worksT4 H1).mono ?_); rintro e wx ⟨rfl, HX⟩; have c1 := HX.out.c1; have cv := HX.out.ext _ (Below.refl _ _)))
    go_ret
    exact ⟨rfl, HX.out.below⟩
  | true =>
  obtain ⟨a1, a2, a3⟩ := hf1.out (by first | rfl | trivial)
  have HF := hide (few4 a1 a2 a3)
  clear hf1 a1 a2 a3
  go_wp2_with (first
    | (go_at_call 9; go_must ((with_reducible refine (encT H1 HF EC EL).mono ?_); rintro e w2 ⟨bv, rfl, HCV, H2⟩; have c2 := H2.out.c1))
    | (go_at_call 10; go_must ((with_reducible refine (rencT H2 HF EC EL).mono ?_); rintro e w3 ⟨rfl, hb3, H3⟩; have c3 := H3.out.c1; have HX3 := hide ((H3.out.with (Y := fun w' => (convert 27 9 bv).run Try.prog w' = .ok (.string ⟨L.toArray⟩) w') (fun wy hb => HCV.out _ (hb3.trans (hb.mono hb3.size)))).keep (Below.refl _ _).drew); have cv := HX3.out.ext _ (Below.refl _ _))))
  go_region_held3 (fun w' => w'.cell? ⟨w.heap.size, 0, none⟩ = some (.slice ta ts.length tcap) ∧ (convert 27 9 bv).run Try.prog w' = .ok (.string ⟨L.toArray⟩) w') (first | assumption | go_keep)
    (first | (go_at_call 11; go_must ((with_reducible refine (chkT4 (by assumption) HF EC).mono ?_); rintro e wx ⟨rfl, HX⟩; have c1 := HX.out.c1; have cv := HX.out.ext _ (Below.refl _ _))) | (go_at_call 12; go_must ((with_reducible refine (rchkT4 (by assumption) HF EC).mono ?_); rintro e wx ⟨rfl, HX⟩; have c1 := HX.out.c1; have cv := HX.out.ext _ (Below.refl _ _))) | (go_at_call 13; go_must ((with_reducible refine (szT4 (by assumption) HF EN).mono ?_); rintro e wx ⟨rfl, HX⟩; have c1 := HX.out.c1; have cv := HX.out.ext _ (Below.refl _ _))) | (go_at_call 8; go_must ((with_reducible refine (worksT4 (by assumption)).mono ?_); rintro e wx ⟨rfl, HX⟩; have c1 := HX.out.c1; have cv := HX.out.ext _ (Below.refl _ _))))
  all_goals
    go_simp
    go_wp2
    go_ret
    exact ⟨rfl, HX.out.below⟩
end Go.Proofs.Ytigmgkcojifbcaa.Walk
