/- HistorySame, walked. -/
import Derived.Test.YtkdggnfjefgonaaHistWorks
import Derived.Test.YtkdggnfjefgonaaHistFew
import Derived.Deep.RegionHeld3
import Derived.Deep.DrawnRows
import Derived.Deep.DeepMust
namespace Go.Proofs.Ytkdggnfjefgonaa.Walk
open Go.RowKit Go.Proofs.Ytkdggnfjefgonaa.Dig Go.Proofs.Ytkdggnfjefgonaa.Mem Go.Proofs.Ytkdggnfjefgonaa.Hist
set_option linter.unusedVariables false
set_option linter.unusedSimpArgs false

/-- Two histories in memory, and in two variables of the call's own. -/
structure TwoH (w : World) (tv uv : Value) (ts us : List TxnM) (wx : World) : Prop where
  below : Below w.heap.size w wx
  c1 : wx.cell? ⟨w.heap.size, 0, none⟩ = some tv
  c2 : wx.cell? ⟨w.heap.size + 1, 0, none⟩ = some uv
  t : TxnsAt (fun b => b < w.heap.size) wx tv ts
  u : TxnsAt (fun b => b < w.heap.size) wx uv us
theorem TwoH.keep {w wx wy : World} {tv uv : Value} {ts us : List TxnM} (h : TwoH w tv uv ts us wx) (hb : Below wx.heap.size wx wy) : TwoH w tv uv ts us wy :=
  ⟨h.below.trans (hb.mono h.below.size), (Only.of_below (S := fun _ => False) hb).cell h.c1 (fun q => q), (Only.of_below (S := fun _ => False) hb).cell h.c2 (fun q => q), h.t.keep hb, h.u.keep hb⟩
theorem TwoH.start {w : World} {tv uv : Value} {ts us : List TxnM} (T : TypeId) (ht : TxnsAt (fun b => b < w.heap.size) w tv ts) (hu : TxnsAt (fun b => b < w.heap.size) w uv us) : TwoH w tv uv ts us ((w.alloc (.cells #[tv] T)).alloc (.cells #[uv] T)) := by
  have hb : Below w.heap.size w ((w.alloc (.cells #[tv] T)).alloc (.cells #[uv] T)) := ((Below.refl _ _).alloc (Nat.le_refl _) _).alloc (by simp) _
  exact ⟨hb, ((Is.made w #[tv] T rfl).alloc _).cell 0 rfl, (Is.made _ #[uv] T (by simp)).cell 0 rfl, ht.keep hb, hu.keep hb⟩
theorem few_few {ts : List TxnM} (h1 : ts.length ≤ 40) (h2 : opsN ts ≤ 100) (h3 : Lists 100 ts) : TxnsFew ts :=
  ⟨by omega, fun t ht => ⟨by obtain ⟨i, hi, rfl⟩ := List.mem_iff_getElem.1 ht; have := ops_le hi; omega, fun o ho => by have := h3 t ht o ho; omega⟩⟩
section
variable {w wx : World} {tv uv : Value} {ts us : List TxnM} {r : Bool}
theorem same_at (h : Hid (TwoH w tv uv ts us wx)) (hf : Hid (TxnsFew ts ∧ TxnsFew us)) (hr : Hid (decide (ts = us) = r)) :
    Calls Try.prog 14 #[.agg #[tv], .agg #[uv]] wx fun e w' => e = .returned (.bool r) ∧ Hid (TwoH w tv uv ts us w') := by
  refine (same_any _ _ tv uv ts us wx h.out.t h.out.u hf.out.1 hf.out.2).mono ?_
  rw [hr.out]
  rintro e w' ⟨rfl, hb⟩
  exact ⟨rfl, h.out.keep hb⟩
theorem rsame_at (h : Hid (TwoH w tv uv ts us wx)) (hf : Hid (TxnsFew ts ∧ TxnsFew us)) (hr : Hid (decide (ts = us) = r)) :
    Calls Try.prog 10 #[.agg #[tv], .agg #[uv]] wx fun e w' => e = .returned (.bool r) ∧ Hid (TwoH w tv uv ts us w') := by
  refine (rsame_any _ _ tv uv ts us wx h.out.t h.out.u hf.out.1 hf.out.2).mono ?_
  rw [hr.out]
  rintro e w' ⟨rfl, hb⟩
  exact ⟨rfl, h.out.keep hb⟩
theorem ops_at {n : Int} (h : Hid (TwoH w tv uv ts us wx)) (hf : Hid (ts.length ≤ 40 ∧ opsN ts ≤ 100)) (hn : Hid ((opsN ts : Int) = n)) :
    Calls Try.prog 11 #[.agg #[tv]] wx fun e w' => e = .returned (.int .i64 n) ∧ Hid (TwoH w tv uv ts us w') := by
  refine (ops_any _ tv ts wx h.out.t (by have := hf.out.1; omega) (by have := hf.out.2; omega)).mono ?_
  rw [hn.out]
  rintro e w' ⟨rfl, hb⟩
  exact ⟨rfl, h.out.keep hb⟩
theorem rops_at {n : Int} (h : Hid (TwoH w tv uv ts us wx)) (hf : Hid (ts.length ≤ 40 ∧ opsN ts ≤ 100)) (hn : Hid ((opsN ts : Int) = n)) :
    Calls Try.prog 12 #[.agg #[tv]] wx fun e w' => e = .returned (.int .i64 n) ∧ Hid (TwoH w tv uv ts us w') := by
  refine (rops_any _ tv ts wx h.out.t (by have := hf.out.1; omega) (by have := hf.out.2; omega)).mono ?_
  rw [hn.out]
  rintro e w' ⟨rfl, hb⟩
  exact ⟨rfl, h.out.keep hb⟩
theorem works_at (h : Hid (TwoH w tv uv ts us wx)) :
    Calls Try.prog 7 #[] wx fun e w' => e = .returned (.bool true) ∧ Hid (TwoH w tv uv ts us w') := by
  refine (works_any wx).mono ?_
  rintro e w' ⟨rfl, hb⟩
  exact ⟨rfl, h.out.keep hb⟩
end
set_option maxHeartbeats 4000000 in
theorem walk_historySame (w : World) (ta : Option Addr) (tcap : Nat) (ts : List TxnM) (ht : TxnsAt (fun b => b < w.heap.size) w (.slice ta ts.length tcap) ts) (ua : Option Addr) (ucap : Nat) (us : List TxnM) (hu : TxnsAt (fun b => b < w.heap.size) w (.slice ua us.length ucap) us) :
    Calls Try.prog 4 #[.agg #[.slice ta ts.length tcap], .agg #[.slice ua us.length ucap]] w fun e w' => e = .returned (.bool true) ∧ Below w.heap.size w w' := by
  have H0 : Hid (TwoH w (.slice ta ts.length tcap) (.slice ua us.length ucap) ts us ((w.alloc (.cells #[.slice ta ts.length tcap] 26)).alloc (.cells #[.slice ua us.length ucap] 26))) := TwoH.start 26 ht hu
  have c1 := H0.out.c1
  have c2 := H0.out.c2
  obtain ⟨r, hr⟩ : ∃ r, decide (ts = us) = r := ⟨_, rfl⟩
  have HR := hide hr
  obtain ⟨n, hn⟩ : ∃ n, (opsN ts : Int) = n := ⟨_, rfl⟩
  have HN := hide hn
  clear ht hu hr hn
  go_enter Try.func4, Try.ntmps4
  go_wp2_with fail
  refine (rfew_any _ _ ts _ H0.out.t).mono ?_
  rintro e w1 ⟨r1, rfl, hf1, hb1⟩
  have H1 := hide (H0.out.keep hb1)
  have c1 := H1.out.c1
  have c2 := H1.out.c2
  replace hf1 := hide hf1
  clear hb1
  cases r1 with
  | false =>
    go_wp2_with (go_at_call 7; go_must ((with_reducible refine (works_at H1).mono ?_); rintro e wx ⟨rfl, HX⟩; have c1 := HX.out.c1; have c2 := HX.out.c2))
    go_ret
    exact ⟨rfl, HX.out.below⟩
  | true =>
  go_wp2_with fail
  refine (rfew_any _ _ us _ H1.out.u).mono ?_
  rintro e w2 ⟨r2, rfl, hf2, hb2⟩
  have H2 := hide (H1.out.keep hb2)
  have c1 := H2.out.c1
  have c2 := H2.out.c2
  replace hf2 := hide hf2
  clear hb2
  cases r2 with
  | false =>
    go_wp2_with (go_at_call 7; go_must ((with_reducible refine (works_at H2).mono ?_); rintro e wx ⟨rfl, HX⟩; have c1 := HX.out.c1; have c2 := HX.out.c2))
    go_ret
    exact ⟨rfl, HX.out.below⟩
  | true =>
  obtain ⟨a1, a2, a3⟩ := hf1.out (by first | rfl | trivial)
  obtain ⟨b1, b2, b3⟩ := hf2.out (by first | rfl | trivial)
  have HF := hide (And.intro (few_few a1 a2 a3) (few_few b1 b2 b3))
  have HG := hide (And.intro a1 a2)
  clear hf1 hf2 a1 a2 a3 b1 b2 b3
  go_wp2
  have HD : Hid (TwoH w (.slice ta ts.length tcap) (.slice ua us.length ucap) ts us w2.drew) := ⟨H2.out.below.drew, H2.out.c1, H2.out.c2, H2.out.t.only (Only.refl (fun _ => False) _).drew (fun _ _ q => q), H2.out.u.only (Only.refl (fun _ => False) _).drew (fun _ _ q => q)⟩
  go_region_held3 (fun w' => w'.cell? ⟨w.heap.size, 0, none⟩ = some (.slice ta ts.length tcap) ∧ w'.cell? ⟨w.heap.size + 1, 0, none⟩ = some (.slice ua us.length ucap)) (first | assumption | go_keep)
    (first | (go_at_call 14; go_must ((with_reducible refine (same_at (by assumption) HF HR).mono ?_); rintro e wx ⟨rfl, HX⟩; have c1 := HX.out.c1; have c2 := HX.out.c2)) | (go_at_call 10; go_must ((with_reducible refine (rsame_at (by assumption) HF HR).mono ?_); rintro e wx ⟨rfl, HX⟩; have c1 := HX.out.c1; have c2 := HX.out.c2)) | (go_at_call 11; go_must ((with_reducible refine (ops_at (by assumption) HG HN).mono ?_); rintro e wx ⟨rfl, HX⟩; have c1 := HX.out.c1; have c2 := HX.out.c2)) | (go_at_call 12; go_must ((with_reducible refine (rops_at (by assumption) HG HN).mono ?_); rintro e wx ⟨rfl, HX⟩; have c1 := HX.out.c1; have c2 := HX.out.c2)) | (go_at_call 7; go_must ((with_reducible refine (works_at (by assumption)).mono ?_); rintro e wx ⟨rfl, HX⟩; have c1 := HX.out.c1; have c2 := HX.out.c2)))
  all_goals
    go_simp
    go_wp2
    go_ret
    exact ⟨rfl, HX.out.below⟩
end Go.Proofs.Ytkdggnfjefgonaa.Walk
